package desc_test

import (
	"slices"
	"strings"
	"testing"

	"almshouse/api"
	"almshouse/desc"
)

func TestReadGoesOn(t *testing.T) {
	w := newWorld(t)
	var x desc.Table
	n := w.opens(t, &x, "/f", api.Reads)
	w.reads(t, &x, n, 3, "012")
	w.reads(t, &x, n, 0, "")
	w.reads(t, &x, n, 1, "3")
	m := w.opens(t, &x, "/f", api.Reads) // begins anew
	w.reads(t, &x, m, 2, "01")
	w.reads(t, &x, n, 100, "456789")
	for _, many := range []int{0, 1, 2, whole} { // at the end
		w.reads(t, &x, n, many, "")
	}
	w.reads(t, &x, m, 8, "23456789") // just all
	w.reads(t, &x, m, 1, "")
	done(t, "Write", w.r.Write(2, 10, "more")) // the end is where the file's is
	w.reads(t, &x, n, 2, "mo")
	w.reads(t, &x, m, whole, "more")
	done(t, "Cut", w.r.Cut(2, 5)) // the place is behind the end now
	w.reads(t, &x, n, whole, "")
	done(t, "Write", w.r.Write(2, 10, "xyzxyz"))
	w.reads(t, &x, n, whole, "zxyz")
	w.reads(t, &x, m, whole, "yz")
}

func TestReadBelowZero(t *testing.T) {
	w, x, u := some(t)
	was := w.seen(t, 2, x, u)
	for _, many := range belowZero {
		for n, want := range []api.Errno{api.ErrRange, api.ErrRange, api.ErrFalse, api.ErrRange, api.ErrRange, api.ErrFalse, api.ErrMissing} {
			w.refusesRead(t, x, n, many, want)
		}
	}
	if s := w.seen(t, 2, x, u); s != was {
		t.Errorf("refused, but: %s\nbefore: %s", s, was)
	}
}

func TestWriteGoesOn(t *testing.T) {
	w := newWorld(t)
	var x desc.Table
	n := w.opens(t, &x, "/f", both)
	w.writes(t, &x, n, "ab", 2)
	w.reads(t, &x, n, 1, "2") // one place for both
	w.writes(t, &x, n, "c", 1)
	w.holds(t, 2, "ab2c456789")
	m := w.opens(t, &x, "/f", api.Writes)
	w.writes(t, &x, m, "A", 1)
	w.writes(t, &x, n, "defghij", 7)
	w.holds(t, 2, "Ab2cdefghij")
	w.writes(t, &x, m, "\x00\xff/", 3)
	w.holds(t, 2, "A\x00\xff/defghij")
	w.reads(t, &x, n, whole, "")
	w.writes(t, &x, n, "!", 1)
	w.holds(t, 2, "A\x00\xff/defghij!")
	w.counts(t, "written", 2, 5)
}

func TestWriteOfTheEmptyText(t *testing.T) {
	for _, at := range []int{0, 4, 10, 11, most - 1, most} {
		for _, limit := range append(slices.Clone(belowZero), append([]int{0, 1, 4, most}, great...)...) {
			w := newWorld(t)
			var x desc.Table
			n := w.opens(t, &x, "/f", both)
			w.seeks(t, &x, n, at)
			if many, err := w.f.Write(&x, n, "", limit); many != 0 || err != nil {
				t.Errorf("Write of the empty text at %d, %d at most: %d, %v: want 0", at, limit, many, err)
			}
			w.holds(t, 2, "0123456789")
			w.stands(t, &x, n, at)
		}
	}
}

// Just as many bytes as may be, by most and by MaxFile, and one more.
func TestWriteOfAsMuchAsMayBe(t *testing.T) {
	for _, at := range []int{0, 1, 5, 10, 12, most - 1, most} {
		for _, limit := range []int{0, 1, 9, 10, 11, 13, most - 1, most, most + 1, 2 * most, whole - 1, whole} {
			room := min(limit, most) - at
			for _, size := range []int{1, 2, room - 1, room, room + 1, room + 2, most, most + 1, 3 * most} {
				if size < 1 {
					continue
				}
				w := newWorld(t)
				var x desc.Table
				n := w.opens(t, &x, "/f", api.Writes)
				w.seeks(t, &x, n, at)
				s := line('a', size)
				if size > room {
					w.refusesWrite(t, &x, n, s, limit, api.ErrLimit)
					w.holds(t, 2, "0123456789")
					w.stands(t, &x, n, at)
					continue
				}
				if many, err := w.f.Write(&x, n, s, limit); many != size || err != nil {
					t.Errorf("Write of %d bytes at %d, %d at most: %d, %v", size, at, limit, many, err)
				}
				w.holds(t, 2, written("0123456789", at, s))
				w.stands(t, &x, n, at+size)
			}
		}
	}
}

// written is a text whose bytes from a place on are another one's; between there are 0.
func written(text string, at int, s string) string {
	if s == "" {
		return text
	}
	if len(text) < at {
		text += strings.Repeat("\x00", at-len(text))
	}
	return text[:at] + s + text[min(len(text), at+len(s)):]
}

func TestWriteWithMostBelowZero(t *testing.T) {
	w, x, u := some(t)
	was := w.seen(t, 2, x, u)
	for _, limit := range append(slices.Clone(belowZero), 0) {
		for n, want := range []api.Errno{api.ErrLimit, api.ErrFalse, api.OK, api.ErrFalse, api.ErrLimit, api.ErrLimit, api.ErrMissing} {
			if n != 2 { // what goes into a pipe has no such bound
				w.refusesWrite(t, x, n, "s", limit, want)
			}
		}
	}
	if s := w.seen(t, 2, x, u); s != was {
		t.Errorf("refused, but: %s\nbefore: %s", s, was)
	}
}

func TestSeek(t *testing.T) {
	w := newWorld(t)
	var x desc.Table
	n, m := w.opens(t, &x, "/f", both), w.opens(t, &x, "/f", api.Reads)
	for at := 0; at <= most; at++ {
		w.seeks(t, &x, n, at)
		w.stands(t, &x, n, at)
	}
	w.holds(t, 2, "0123456789")
	for at := range 10 {
		w.seeks(t, &x, n, at)
		w.reads(t, &x, n, 1, string([]byte{byte('0' + at)}))
		w.seeks(t, &x, n, at)
		w.seeks(t, &x, n, at)
		w.reads(t, &x, n, whole, "0123456789"[at:])
	}
	for _, at := range []int{10, 11, most} {
		w.seeks(t, &x, n, at)
		w.reads(t, &x, n, whole, "")
	}
	w.refusesWrite(t, &x, n, "x", whole, api.ErrLimit) // it stands at MaxFile
	w.seeks(t, &x, n, 12)
	w.holds(t, 2, "0123456789") // to seek adds no bytes
	w.writes(t, &x, n, "x", 1)
	w.holds(t, 2, "0123456789\x00\x00x")
	w.reads(t, &x, m, 2, "01") // it stands where it stood
	o := w.opens(t, &x, "/g", api.Writes)
	w.seeks(t, &x, o, 1) // also of what may not be read
	w.writes(t, &x, o, "B", 1)
	w.holds(t, 3, "aBc")
}

func TestSeekThatIsRefused(t *testing.T) {
	w, x, u := some(t)
	was := w.seen(t, 2, x, u)
	for _, at := range append(slices.Clone(belowZero), great...) {
		for n, want := range []api.Errno{api.ErrRange, api.ErrState, api.ErrState, api.ErrRange, api.ErrRange, api.ErrRange, api.ErrMissing} {
			w.refusesSeek(t, x, n, at, want)
		}
	}
	for _, at := range []int{0, 1, most} {
		w.refusesSeek(t, x, 1, at, api.ErrState)
		w.refusesSeek(t, x, 2, at, api.ErrState)
	}
	if s := w.seen(t, 2, x, u); s != was {
		t.Errorf("refused, but: %s\nbefore: %s", s, was)
	}
}

func TestBothEndsOfAPipe(t *testing.T) {
	w := newWorld(t)
	var x desc.Table
	from, into := w.pipes(t, &x)
	from2, into2 := w.pipes(t, &x)
	w.refusesRead(t, &x, from, 1, api.ErrNone)
	w.reads(t, &x, from, 0, "")
	w.refusesRead(t, &x, from, -1, api.ErrRange)
	w.refusesRead(t, &x, into, 1, api.ErrFalse)
	w.refusesWrite(t, &x, from, "x", most, api.ErrFalse)
	w.refusesWrite(t, &x, from, "", most, api.ErrFalse)
	w.writes(t, &x, into, "", 0)
	w.writes(t, &x, into, "hello", 5)
	w.refusesRead(t, &x, from2, 1, api.ErrNone) // another pipe
	if n, err := w.f.Write(&x, into, line('a', 20), -1); n != 11 || err != nil {
		t.Errorf("Write: %d, %v: want 11, whatever most is", n, err)
	}
	w.refusesWrite(t, &x, into, "x", most, api.ErrFull)
	w.writes(t, &x, into, "", 0)
	w.writes(t, &x, into2, "other", 5)
	w.reads(t, &x, from, 7, "helloab")
	w.reads(t, &x, from, whole, "cdefghijk")
	w.refusesRead(t, &x, from, whole, api.ErrNone)
	w.reads(t, &x, from2, whole, "other")
	w.counts(t, "two pipes", 4, 5)
}

// An end is open as long as a number is of it: in whichever table, and by whatever it is closed.
func TestTheLastNumberOfAnEnd(t *testing.T) {
	last := []func(w *world, x *desc.Table, n int){
		func(w *world, x *desc.Table, n int) { w.closes(t, x, n) },
		func(w *world, x *desc.Table, n int) { w.marks(t, x, n, true); w.f.Exec(x) },
		func(w *world, x *desc.Table, n int) {
			m := w.opens(t, x, "/f", both)
			w.dups2(t, x, m, n)
			w.closes(t, x, m)
		},
	}
	for _, goes := range last {
		w := newWorld(t)
		x := &desc.Table{}
		from, into := w.pipes(t, x)
		more := w.dups(t, x, into)
		u := w.f.Fork(x)
		w.closes(t, u, more)
		w.closes(t, u, from)
		w.writes(t, x, into, "ab", 2)
		goes(w, x, into)
		w.writes(t, x, more, "cd", 2)
		goes(w, x, more)
		w.reads(t, x, from, 3, "abc")
		w.writes(t, u, into, "e", 1)
		w.reads(t, x, from, 2, "de")
		w.refusesRead(t, x, from, 1, api.ErrNone) // the fork has an Into
		w.writes(t, u, into, "f", 1)
		goes(w, u, into)
		w.reads(t, x, from, 5, "f") // what went in comes out, then nothing more
		w.reads(t, x, from, 5, "")
		w.reads(t, x, from, 5, "")
	}
	for _, goes := range last {
		w := newWorld(t)
		x := &desc.Table{}
		from, into := w.pipes(t, x)
		u := w.f.Fork(x)
		w.writes(t, x, into, "ab", 2)
		goes(w, x, from)
		w.writes(t, x, into, "cd", 2) // the fork has a From
		w.reads(t, u, from, 3, "abc")
		goes(w, u, from)
		w.refusesWrite(t, x, into, "e", most, api.ErrDevice)
		w.refusesWrite(t, u, into, "", most, api.ErrDevice)
	}
}

func TestAPipeThatIsClosedIsNoEntry(t *testing.T) {
	w := newWorld(t)
	var x desc.Table
	for range 3 * api.MaxOpen {
		from, into := w.pipes(t, &x)
		w.writes(t, &x, into, "left", 4)
		w.closes(t, &x, from)
		w.counts(t, "one end", 1, 5)
		w.closes(t, &x, into)
		w.counts(t, "no end", 0, 5)
	}
	from, _ := w.pipes(t, &x)
	w.refusesRead(t, &x, from, 1, api.ErrNone) // a new one has no bytes
}

func TestForkSharesThePlace(t *testing.T) {
	w, x, u := some(t)
	w.reads(t, x, 0, 2, "45")
	w.reads(t, u, 0, 1, "6")
	w.reads(t, u, 4, 1, "7") // 4 is of the same entry
	w.seeks(t, u, 4, 1)
	w.reads(t, x, 0, 2, "12")
	w.writes(t, u, 0, "x", 1)
	w.reads(t, x, 4, whole, "456789")
	w.reads(t, u, 3, 1, "b")
	w.reads(t, x, 3, whole, "c")
	w.writes(t, u, 5, "C", 1)
	w.writes(t, x, 5, "D", 1)
	w.holds(t, 3, "abCD")
	w.reads(t, u, 1, 2, "xy")
	w.reads(t, x, 1, 2, "z")
}

func TestForkIsATableOfItsOwn(t *testing.T) {
	w, x, u := some(t)
	w.counts(t, "forked", 6, 5)
	if l := w.marked(x); !slices.Equal(l, []int{3, 5}) {
		t.Errorf("marked are %v: want 3, 5", l)
	}
	if l := w.marked(u); !slices.Equal(l, []int{5}) {
		t.Errorf("in the fork marked are %v: want 5", l)
	}
	v := w.f.Fork(u)
	if l := w.marked(v); !slices.Equal(l, []int{5}) {
		t.Errorf("in the fork's fork marked are %v: want 5", l)
	}
	w.f.Clear(u)
	w.counts(t, "one of three is cleared", 6, 5)
	w.has(t, "cleared", u)
	w.has(t, "others", x, 0, 1, 2, 3, 4, 5)
	w.has(t, "others", v, 0, 1, 2, 3, 4, 5)
	w.f.Clear(v)
	w.counts(t, "/d/h is closed", 5, 5)
	w.heldJust(t, 4, 0)
	w.reads(t, x, 0, 1, "4")
	w.f.Clear(x)
	w.counts(t, "all are cleared", 0, 5)
	w.heldJust(t, 2, 0)
	w.heldJust(t, 3, 0)
	y := w.f.Fork(x)
	w.has(t, "fork of a table without numbers", y)
	w.opens(t, y, "/f", both)
	w.has(t, "the one that was forked", x)
}

func TestExecClosesWhatIsMarked(t *testing.T) {
	w, x, u := some(t)
	w.f.Exec(x)
	w.has(t, "behind Exec", x, 0, 1, 2, 4)
	w.has(t, "the fork", u, 0, 1, 2, 3, 4, 5)
	w.counts(t, "the fork has them", 6, 5)
	w.f.Exec(u)
	w.has(t, "behind Exec", u, 0, 1, 2, 3, 4)
	w.counts(t, "5 is closed", 5, 5)
	w.heldJust(t, 3, 1)
	was := w.seen(t, 2, x, u)
	w.f.Exec(x) // nothing is MARKED
	w.f.Exec(u)
	if s := w.seen(t, 2, x, u); s != was {
		t.Errorf("behind Exec: %s\nbefore: %s", s, was)
	}
	w.f.Exec(&desc.Table{})
	w.counts(t, "Exec of no numbers", 5, 5)
}

func TestExecOfEachSet(t *testing.T) {
	for set := range 1 << api.MaxFds {
		w := newWorld(t)
		x := w.full(t)
		var stays []int
		for n := range api.MaxFds {
			w.marks(t, x, n, set>>n&1 != 0)
			if set>>n&1 == 0 {
				stays = append(stays, n)
			}
		}
		w.f.Exec(x)
		w.has(t, "behind Exec", x, stays...)
		w.counts(t, "behind Exec", len(stays), 5)
		w.heldJust(t, 2, len(stays))
	}
}

func TestClear(t *testing.T) {
	eachFree(t, func(w *world, x *desc.Table, free, used []int) {
		for _, n := range used {
			w.marks(t, x, n, n%2 == 0)
		}
		w.unlinks(t, "/f")
		for range 2 {
			w.f.Clear(x)
			w.has(t, "cleared", x)
			w.counts(t, "cleared", 0, 4)
		}
		if n := w.opens(t, x, "/g", both); n != 0 {
			t.Errorf("File: %d: want 0", n)
		}
	})
}

// What is told first is told, whatever else is wrong.
func TestWhichErrorComesFirst(t *testing.T) {
	w, x, u := some(t)
	w.closes(t, x, 1)
	w.f.Clear(u) // no From is open
	was := w.seen(t, 2, x)
	w.refusesRead(t, x, 7, -1, api.ErrMissing)
	w.refusesRead(t, x, 5, -1, api.ErrFalse)
	w.refusesRead(t, x, 2, -1, api.ErrFalse)
	w.refusesRead(t, x, 0, -1, api.ErrRange)
	w.refusesWrite(t, x, 7, line(0, most+1), -1, api.ErrMissing)
	w.refusesWrite(t, x, 3, line(0, most+1), -1, api.ErrFalse)
	w.refusesWrite(t, x, 0, line(0, most+1), -1, api.ErrLimit)
	w.refusesWrite(t, x, 2, line(0, most+1), -1, api.ErrDevice)
	w.refusesWrite(t, x, 2, "", -1, api.ErrDevice)
	w.refusesSeek(t, x, 7, -1, api.ErrMissing)
	w.refusesSeek(t, x, 2, -1, api.ErrState)
	w.refusesSeek(t, x, 0, -1, api.ErrRange)
	if s := w.seen(t, 2, x); s != was {
		t.Errorf("refused, but: %s\nbefore: %s", s, was)
	}
	y := w.full(t)
	w.refusesDup(t, y, 8, api.ErrMissing)
	w.refusesDup(t, y, 0, api.ErrFull)
}
