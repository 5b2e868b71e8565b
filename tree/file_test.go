package tree_test

import (
	"math"
	"strings"
	"testing"

	"almshouse/api"
	"almshouse/tree"
)

func TestNodesThatAreNot(t *testing.T) {
	r := some(t)
	for _, n := range []int{
		math.MinInt, math.MinInt + 4, -1 << 32, -256, -api.MaxNodes, -5, -4, -1, 6, 7, api.MaxNodes - 1, api.MaxNodes, api.MaxNodes + 1,
		256, 256 + 4, 1<<16 + 4, 1<<31 + 4, 1 << 32, 1<<32 + 4, math.MaxInt - 1, math.MaxInt,
	} {
		gone(t, r, n)
	}
	has(t, r, 4, "four")
	heldJust(t, r, 4, 0)
}

func TestDirectoriesWhereAFileIsAskedFor(t *testing.T) {
	r := some(t)
	for _, n := range []int{0, 1, 3} {
		refusesAll(t, r, n, api.ErrState)
	}
	unlinks(t, r, "/d/e") // it was never held
	gone(t, r, 3)
}

func TestAFileStaysAsLongAsItIsHeld(t *testing.T) {
	r := some(t)
	done(t, "Hold", r.Hold(4))
	unlinks(t, r, "/f")
	lists(t, r, "/", "d", "g")
	nodes(t, "held", r, 6)
	has(t, r, 4, "four")
	writes(t, r, 4, 4, "teen")
	has(t, r, 4, "fourteen")
	done(t, "Cut", r.Cut(4, 6))
	reads(t, r, 4, 2, 3, "urt")
	if n := create(t, r, "/f"); n != 6 { // 4 is there
		t.Errorf("Create: %d: want 6", n)
	}
	writes(t, r, 6, 0, "six")
	has(t, r, 4, "fourte")
	done(t, "Drop", r.Drop(4))
	gone(t, r, 4)
	nodes(t, "dropped", r, 6)
	has(t, r, 6, "six")
	if n := create(t, r, "/4"); n != 4 {
		t.Errorf("Create: %d: want 4", n)
	}
	has(t, r, 4, "")
	heldJust(t, r, 4, 0)
}

func TestAFileThatIsDroppedStaysWhileItHasAName(t *testing.T) {
	r := some(t)
	done(t, "Hold", r.Hold(4))
	done(t, "Drop", r.Drop(4))
	finds(t, r, "/f", 4)
	has(t, r, 4, "four")
	nodes(t, "dropped", r, 6)
	wrong(t, "Drop", r.Drop(4), api.ErrOrder)
	unlinks(t, r, "/f")
	gone(t, r, 4)
}

func TestAFileIsHeldSeveralTimes(t *testing.T) {
	for times := 1; times <= 5; times++ {
		for before := range times + 1 { // so many times it is dropped ahead of its last name's end
			r := some(t)
			for range times {
				done(t, "Hold", r.Hold(4))
			}
			for range before {
				done(t, "Drop", r.Drop(4))
			}
			unlinks(t, r, "/f")
			for range times - before {
				has(t, r, 4, "four")
				nodes(t, "held", r, 6)
				done(t, "Drop", r.Drop(4))
			}
			gone(t, r, 4)
			nodes(t, "dropped", r, 5)
		}
	}
}

func TestWithoutANameItMayBeHeldOnceMore(t *testing.T) {
	r := some(t)
	done(t, "Hold", r.Hold(4))
	unlinks(t, r, "/f")
	done(t, "Hold", r.Hold(4))
	done(t, "Drop", r.Drop(4))
	has(t, r, 4, "four")
	done(t, "Drop", r.Drop(4))
	gone(t, r, 4)
}

// Both must be gone, the names and who holds it, whichever goes first.
func TestNamesAndHoldsTogether(t *testing.T) {
	r := some(t)
	done(t, "Hold", r.Hold(5))
	unlinks(t, r, "/g")
	done(t, "Drop", r.Drop(5))
	finds(t, r, "/d/g", 5)
	done(t, "Hold", r.Hold(5))
	unlinks(t, r, "/d/g")
	has(t, r, 5, "")
	unlinks(t, r, "/d/f")
	unlinks(t, r, "/d/e")
	unlinks(t, r, "/d") // its directory may go
	nodes(t, "held without a directory", r, 3)
	writes(t, r, 5, 0, "here")
	has(t, r, 5, "here")
	done(t, "Drop", r.Drop(5))
	gone(t, r, 5)
}

func TestDropOfWhatIsNotHeld(t *testing.T) {
	r := some(t)
	for _, n := range []int{2, 4, 5} {
		for range 3 {
			refuses(t, "Drop", r, api.ErrOrder, func() error { return r.Drop(n) })
		}
		done(t, "Hold", r.Hold(n))
		heldJust(t, r, n, 1)
	}
	done(t, "Hold", r.Hold(4))
	refuses(t, "Drop of another one", r, api.ErrOrder, func() error { return r.Drop(2) })
	heldJust(t, r, 4, 1)
}

func TestHoldManyTimes(t *testing.T) {
	const many = 70_000 // more than 16 bits count
	r := some(t)
	for range many {
		done(t, "Hold", r.Hold(4))
	}
	unlinks(t, r, "/f")
	for range many - 1 {
		done(t, "Drop", r.Drop(4))
	}
	has(t, r, 4, "four")
	done(t, "Drop", r.Drop(4))
	gone(t, r, 4)
}

// What is asked of paths leaves how often a file is held.
func TestPathsLeaveTheHolds(t *testing.T) {
	r := some(t)
	done(t, "Hold", r.Hold(4))
	done(t, "Hold", r.Hold(4))
	links(t, r, "/f", "/h")
	renames(t, r, "/f", "/d/e/f")
	unlinks(t, r, "/h")
	_, _ = r.Create("/d/e/f")
	refusesLink(t, r, "/d/e/f", "/d/f", api.ErrTwice)
	refusesRename(t, r, "/d/e/f", "/d/f", api.ErrTwice)
	heldJust(t, r, 4, 2)
}

func TestBytesInPiecesAndAtOnce(t *testing.T) {
	r := filled(t, "")
	long := line(7, most)
	for piece := 1; piece <= most; piece = piece*2 + 1 {
		done(t, "Cut", r.Cut(1, 0))
		for at := 0; at < most; at += piece {
			writes(t, r, 1, at, long[at:min(at+piece, most)])
			has(t, r, 1, long[:min(at+piece, most)])
		}
		for at := 0; at < most; at += piece {
			reads(t, r, 1, at, piece, long[at:min(at+piece, most)])
		}
	}
	for at := most; at > 0; at -= 10 {
		writes(t, r, 1, at-10, line(90, 10))
	}
	has(t, r, 1, strings.Repeat(line(90, 10), most/10))
}

// At each number of bytes that there are, each place, and each number of bytes.
func TestEveryRead(t *testing.T) {
	for size := range 7 {
		r := filled(t, line(50, size))
		for at := range 10 {
			for many := range 10 {
				want := ""
				for i := at; i < min(at+many, size); i++ {
					want += line(50+i, 1)
				}
				reads(t, r, 1, at, many, want)
			}
			for _, many := range great {
				reads(t, r, 1, at, many, line(50, size)[min(at, size):])
			}
		}
		for _, at := range great {
			for _, many := range append([]int{0, 1, most}, great...) {
				reads(t, r, 1, at, many, "")
			}
		}
		has(t, r, 1, line(50, size))
	}
}

func TestReadBelowZero(t *testing.T) {
	for _, text := range []string{"", "abc", line(0, most)} {
		r := filled(t, text)
		for _, low := range belowZero {
			for _, other := range append([]int{0, 1, 3, most, -1, math.MinInt}, great...) {
				refusesRead(t, r, 1, low, other, api.ErrRange)
				refusesRead(t, r, 1, other, low, api.ErrRange)
			}
		}
	}
}

// written says the document's words byte by byte.
func written(text string, at int, s string) string {
	if s == "" {
		return text
	}
	b := []byte(text)
	for len(b) < at {
		b = append(b, 0)
	}
	for i := range len(s) {
		if at+i < len(b) {
			b[at+i] = s[i]
		} else {
			b = append(b, s[i])
		}
	}
	return string(b)
}

func TestEveryWrite(t *testing.T) {
	for size := range 6 {
		for at := range 9 {
			for many := range 6 {
				r := filled(t, line(50, size))
				writes(t, r, 1, at, line(150, many))
				has(t, r, 1, written(line(50, size), at, line(150, many)))
			}
		}
	}
}

func TestEveryWriteAtTheLimit(t *testing.T) {
	for _, size := range []int{0, 1, most / 2, most - 4, most - 1, most} {
		for at := most - 5; at <= most+3; at++ {
			for many := range 8 {
				r, s := filled(t, line(50, size)), line(150, many)
				if at+many > most {
					refusesWrite(t, r, 1, at, s, api.ErrLimit)
				} else {
					writes(t, r, 1, at, s)
					has(t, r, 1, written(line(50, size), at, s))
				}
			}
		}
		for at := range 4 {
			for many := most - 4; many <= most+4; many++ {
				r, s := filled(t, line(50, size)), line(150, many)
				if at+many > most {
					refusesWrite(t, r, 1, at, s, api.ErrLimit)
				} else {
					writes(t, r, 1, at, s)
					has(t, r, 1, written(line(50, size), at, s))
				}
			}
		}
	}
}

// Of the empty text nothing is written, and no byte comes to be; but ErrLimit is told ahead of it.
func TestWriteOfTheEmptyText(t *testing.T) {
	for _, text := range []string{"", "a", "abc", line(0, most)} {
		r := filled(t, text)
		for at := range most + 1 {
			writes(t, r, 1, at, "")
		}
		has(t, r, 1, text)
		for _, at := range great {
			refusesWrite(t, r, 1, at, "", api.ErrLimit)
		}
		for _, at := range belowZero {
			refusesWrite(t, r, 1, at, "", api.ErrRange)
		}
	}
}

func TestWriteOfTooMuch(t *testing.T) {
	for _, text := range []string{"", "abc", line(0, most)} {
		r := filled(t, text)
		for _, many := range []int{1, 2, most, most + 1, 256, 1 << 16, 1<<16 + 1, 1 << 20} {
			s := line(0, many)
			for _, at := range append([]int{math.MaxInt - many, math.MaxInt - many + 1}, great...) { // some come to more than a number can be
				refusesWrite(t, r, 1, at, s, api.ErrLimit)
			}
			for _, at := range belowZero { // told ahead of it
				refusesWrite(t, r, 1, at, s, api.ErrRange)
			}
		}
	}
}

// Between the end and the place there are 0, also where other bytes were once.
func TestBetweenTheEndAndThePlaceThereAreNoughts(t *testing.T) {
	r := filled(t, "")
	for size := range 12 {
		for gap := range 12 {
			writes(t, r, 1, 0, strings.Repeat("?", 40))
			done(t, "Cut", r.Cut(1, size))
			has(t, r, 1, strings.Repeat("?", size))
			writes(t, r, 1, size+gap, "!")
			has(t, r, 1, strings.Repeat("?", size)+strings.Repeat("\x00", gap)+"!")
		}
	}
	writes(t, r, 1, most-1, "!")
	reads(t, r, 1, 100, whole, strings.Repeat("\x00", most-101)+"!")
}

func TestCut(t *testing.T) {
	for _, has0 := range []int{0, 1, 2, 50, most - 1, most} {
		for _, size := range append([]int{0, 1, 2, 3, 49, 50, 51, most - 1, most}, great...) {
			r, text := filled(t, line(50, has0)), line(50, has0)
			done(t, "Cut", r.Cut(1, size))
			has(t, r, 1, text[:min(size, has0)])
			done(t, "Cut again", r.Cut(1, size))
			has(t, r, 1, text[:min(size, has0)])
			writes(t, r, 1, min(size, has0, most-1), "+")
			has(t, r, 1, written(text[:min(size, has0)], min(size, has0, most-1), "+"))
		}
		r := filled(t, line(50, has0))
		for _, size := range belowZero {
			refusesCut(t, r, 1, size, api.ErrRange)
		}
	}
}

func TestFilesShareNothing(t *testing.T) {
	r := tree.New()
	for n := 1; n < api.MaxNodes; n++ {
		create(t, r, "/"+line('a'+n, 1)+"x")
		writes(t, r, n, 0, line(n, n))
	}
	writes(t, r, 7, 3, "XYZ")
	done(t, "Cut", r.Cut(9, 2))
	for n := 1; n < api.MaxNodes; n++ {
		switch n {
		case 7:
			has(t, r, n, line(n, 3)+"XYZ"+line(n+6, 1))
		case 9:
			has(t, r, n, line(n, 2))
		default:
			has(t, r, n, line(n, n))
		}
	}
}

func TestFilesOfBytesOfEveryValue(t *testing.T) {
	r := filled(t, "")
	for v := range 256 {
		writes(t, r, 1, 0, line(v, most))
		has(t, r, 1, line(v, most))
		for at := range 3 {
			reads(t, r, 1, at, 1, line(v+at, 1))
		}
	}
	for _, s := range []string{"\x00", "é", "日本語", "😀", "\xc3", "\xed\xa0\x80", "\xff\xfe", "\n", "a\x00b"} {
		done(t, "Cut", r.Cut(1, 0))
		writes(t, r, 1, 0, s)
		has(t, r, 1, s)
		for i := range len(s) {
			reads(t, r, 1, i, 1, s[i:i+1])
		}
	}
}
