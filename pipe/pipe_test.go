package pipe_test

import (
	"math"
	"strings"
	"testing"

	"almshouse/api"
	"almshouse/pipe"
	"almshouse/plain"
)

const most = api.PipeBytes

// Beside the neighbours of the ends stand numbers that are one of them in 8, 16 or 32 bits alone.
var wrongEnds = []int{
	math.MinInt, -1 << 32, -api.Into, -api.From, -api.File, -1, 0, api.File, api.Into + 1, api.Into + 2,
	256 + api.From, 256 + api.Into, 1<<16 + api.From, 1<<16 + api.Into, 1<<32 + api.From, 1<<32 + api.Into,
	math.MinInt + api.From, math.MaxInt - 1, math.MaxInt,
}

var (
	belowZero = []int{math.MinInt, math.MinInt + 1, -1 << 32, -most - 1, -most, -2, -1}
	great     = []int{most + 1, 2 * most, 256, 1 << 16, 1 << 32, math.MaxInt - 1, math.MaxInt}
)

// line is n bytes of which no two neighbours are alike, from the byte first on.
func line(first, n int) string {
	b := make([]byte, n)
	for i := range b {
		b[i] = byte(first + i)
	}
	return string(b)
}

func opens(t *testing.T, p *pipe.Pipe, end int) {
	t.Helper()
	if err := p.Open(end); err != nil {
		t.Fatalf("Open(%d): %v: want no error", end, err)
	}
}

func closes(t *testing.T, p *pipe.Pipe, end int) {
	t.Helper()
	if err := p.Close(end); err != nil {
		t.Fatalf("Close(%d): %v: want no error", end, err)
	}
}

func writes(t *testing.T, p *pipe.Pipe, s string, want int) {
	t.Helper()
	had := p.Len()
	if n, err := p.Write(s); n != want || err != nil {
		t.Fatalf("Write(%q) to %d bytes: %d, %v: want %d", s, had, n, err, want)
	}
	if p.Len() != had+want {
		t.Fatalf("behind Write(%q) to %d bytes: %d bytes: want %d", s, had, p.Len(), had+want)
	}
}

func reads(t *testing.T, p *pipe.Pipe, n int, want string) {
	t.Helper()
	had := p.Len()
	if s, err := p.Read(n); s != want || err != nil {
		t.Fatalf("Read(%d) of %d bytes: %q, %v: want %q", n, had, s, err, want)
	}
	if p.Len() != had-len(want) {
		t.Fatalf("behind Read(%d) of %d bytes: %d bytes: want %d", n, had, p.Len(), had-len(want))
	}
}

func wrong(t *testing.T, what string, err error, want api.Errno) {
	t.Helper()
	if e, place := plain.Place(err); e != want || place != -1 {
		t.Errorf("%s: error %d at %d: want %d, without a place", what, e, place, want)
	}
}

func refusesWrite(t *testing.T, p *pipe.Pipe, s string, want api.Errno) {
	t.Helper()
	n, err := p.Write(s)
	wrong(t, "Write", err, want)
	if n != 0 {
		t.Errorf("Write(%q): %d bytes beside an error: want 0", s, n)
	}
}

func refusesRead(t *testing.T, p *pipe.Pipe, n int, want api.Errno) {
	t.Helper()
	s, err := p.Read(n)
	wrong(t, "Read", err, want)
	if s != "" {
		t.Errorf("Read(%d): %q beside an error: want none", n, s)
	}
}

// made is a pipe with bytes and ends. It was filled and emptied before, so that it has had bytes at each place.
func made(t *testing.T, bytes string, from, into int) *pipe.Pipe {
	t.Helper()
	p := &pipe.Pipe{}
	opens(t, p, api.From)
	writes(t, p, strings.Repeat("?", most), most)
	reads(t, p, most, strings.Repeat("?", most))
	writes(t, p, bytes, len(bytes))
	for range from {
		opens(t, p, api.From)
	}
	for range into {
		opens(t, p, api.Into)
	}
	closes(t, p, api.From)
	return p
}

// is tells the ends and how many bytes there are.
func is(t *testing.T, what string, p *pipe.Pipe, bytes, from, into int) {
	t.Helper()
	if f, i := p.Ends(); f != from || i != into || p.Len() != bytes {
		t.Errorf("%s: ends %d, %d, %d bytes: want %d, %d, %d", what, f, i, p.Len(), from, into, bytes)
	}
}

// held tells all of a pipe, and takes its bytes out for this.
func held(t *testing.T, what string, p *pipe.Pipe, bytes string, from, into int) {
	t.Helper()
	is(t, what, p, len(bytes), from, into)
	if bytes != "" {
		reads(t, p, most, bytes)
	}
	if into > 0 {
		refusesRead(t, p, 1, api.ErrNone)
	} else {
		reads(t, p, 1, "")
	}
	is(t, what+", emptied", p, 0, from, into)
}

// each goes through pipes without bytes, with some, and full ones, with no end, one end, and several.
func each(t *testing.T, do func(p *pipe.Pipe, bytes string, from, into int)) {
	t.Helper()
	for _, n := range []int{0, 1, 2, most / 2, most - 1, most} {
		for ends := range 9 {
			bytes, from, into := line(200, n), ends%3, ends/3
			do(made(t, bytes, from, into), bytes, from, into)
		}
	}
}

func TestTheZeroValueHasNoBytesAndNoEnds(t *testing.T) {
	var p pipe.Pipe
	is(t, "the zero value", &p, 0, 0, 0)
	for _, n := range append([]int{0, 1, most}, great...) {
		reads(t, &p, n, "")
	}
	for _, s := range []string{"", "a", line(0, most), line(0, most+1)} {
		refusesWrite(t, &p, s, api.ErrDevice)
	}
	for _, n := range belowZero {
		refusesRead(t, &p, n, api.ErrRange)
	}
	wrong(t, "Close", p.Close(api.From), api.ErrState)
	wrong(t, "Close", p.Close(api.Into), api.ErrState)
	held(t, "the zero value", &p, "", 0, 0)
}

func TestEndsAreCounted(t *testing.T) {
	var p pipe.Pipe
	for n := 1; n <= 5; n++ {
		opens(t, &p, api.From)
		is(t, "Open(From)", &p, 0, n, 0)
	}
	for n := 1; n <= 3; n++ {
		opens(t, &p, api.Into)
		is(t, "Open(Into)", &p, 0, 5, n)
	}
	for n := 4; n >= 0; n-- {
		closes(t, &p, api.From)
		is(t, "Close(From)", &p, 0, n, 3)
	}
	for n := 2; n >= 0; n-- {
		closes(t, &p, api.Into)
		is(t, "Close(Into)", &p, 0, 0, n)
	}
	opens(t, &p, api.Into)
	opens(t, &p, api.From)
	is(t, "opened again", &p, 0, 1, 1)
}

func TestManyEnds(t *testing.T) {
	const many = 70_000 // more than 16 bits count
	p := made(t, "abc", 0, 0)
	for range many {
		opens(t, p, api.From)
	}
	for range many + 1 {
		opens(t, p, api.Into)
	}
	is(t, "opened", p, 3, many, many+1)
	for range many {
		closes(t, p, api.From)
		closes(t, p, api.Into)
	}
	held(t, "closed", p, "abc", 0, 1)
}

func TestEndsLeaveTheBytes(t *testing.T) {
	each(t, func(p *pipe.Pipe, bytes string, from, into int) {
		opens(t, p, api.From)
		is(t, "Open(From)", p, len(bytes), from+1, into)
		opens(t, p, api.Into)
		is(t, "Open(Into)", p, len(bytes), from+1, into+1)
		closes(t, p, api.From)
		is(t, "Close(From)", p, len(bytes), from, into+1)
		closes(t, p, api.Into)
		held(t, "opened and closed", p, bytes, from, into)
	})
}

func TestCloseWhereNoneIsOpen(t *testing.T) {
	each(t, func(p *pipe.Pipe, bytes string, from, into int) {
		for range from {
			closes(t, p, api.From)
		}
		wrong(t, "Close(From)", p.Close(api.From), api.ErrState)
		wrong(t, "Close(From)", p.Close(api.From), api.ErrState)
		is(t, "no From", p, len(bytes), 0, into)
		for range into {
			closes(t, p, api.Into)
		}
		wrong(t, "Close(Into)", p.Close(api.Into), api.ErrState)
		wrong(t, "Close(Into)", p.Close(api.Into), api.ErrState)
		held(t, "no ends", p, bytes, 0, 0)
	})
}

// An end of one kind is none of the other one.
func TestCloseWhereTheOtherIsOpen(t *testing.T) {
	p := made(t, "abc", 2, 0)
	wrong(t, "Close(Into)", p.Close(api.Into), api.ErrState)
	held(t, "two From", p, "abc", 2, 0)
	p = made(t, "abc", 0, 2)
	wrong(t, "Close(From)", p.Close(api.From), api.ErrState)
	held(t, "two Into", p, "abc", 0, 2)
}

func TestEndsThatAreNot(t *testing.T) {
	each(t, func(p *pipe.Pipe, bytes string, from, into int) {
		for _, end := range wrongEnds {
			wrong(t, "Open", p.Open(end), api.ErrArg)
			is(t, "behind an Open that is refused", p, len(bytes), from, into)
			wrong(t, "Close", p.Close(end), api.ErrArg) // told ahead of ErrState
			is(t, "behind a Close that is refused", p, len(bytes), from, into)
		}
		held(t, "no such ends", p, bytes, from, into)
	})
}

func TestWhatGoesInComesOut(t *testing.T) {
	p := made(t, "", 1, 1)
	writes(t, p, "hello", 5)
	writes(t, p, ", ", 2)
	reads(t, p, 3, "hel")
	writes(t, p, "world", 5)
	reads(t, p, 1, "l")
	reads(t, p, 4, "o, w")
	writes(t, p, "!", 1)
	reads(t, p, 5, "orld!")
	refusesRead(t, p, 1, api.ErrNone)
}

// Neither end need be open for bytes that are there to come out, nor an Into for bytes to go in.
func TestWhichEndsMustBeOpen(t *testing.T) {
	each(t, func(p *pipe.Pipe, bytes string, from, into int) {
		switch {
		case from == 0:
			refusesWrite(t, p, "+", api.ErrDevice)
		case len(bytes) == most:
			refusesWrite(t, p, "+", api.ErrFull)
		default:
			writes(t, p, "+", 1)
			bytes += "+"
		}
		held(t, "one byte more, perhaps", p, bytes, from, into)
	})
}

// At each number of bytes that there are, each number that is written, and then each number that is read.
func TestEveryWriteAndEveryRead(t *testing.T) {
	for had := range most + 1 {
		for more := range most + 4 {
			for n := range most + 4 {
				p := made(t, line(1, had), 1, 0)
				room := min(more, most-had)
				if had == most && more > 0 {
					refusesWrite(t, p, line(100, more), api.ErrFull)
				} else {
					writes(t, p, line(100, more), room)
				}
				all := line(1, had) + line(100, room)
				first := min(n, len(all))
				reads(t, p, n, all[:first])
				held(t, "the others", p, all[first:], 1, 0)
			}
		}
	}
}

func TestWriteOfManyMore(t *testing.T) {
	for _, more := range []int{most + 1, 2 * most, 255, 256, 257, 1 << 16, 1<<16 + 1, 1 << 20} {
		for _, had := range []int{0, 1, most - 1} {
			p := made(t, line(1, had), 1, 1)
			writes(t, p, line(100, more), most-had)
			refusesWrite(t, p, line(50, more), api.ErrFull)
			held(t, "as many as there is room for", p, line(1, had)+line(100, most-had), 1, 1)
		}
	}
}

func TestOnePlaceLeftAndNone(t *testing.T) {
	p := made(t, line(1, most-1), 1, 1)
	writes(t, p, "", 0)
	writes(t, p, "xy", 1)
	writes(t, p, "", 0) // told ahead of ErrFull
	refusesWrite(t, p, "z", api.ErrFull)
	refusesWrite(t, p, line(0, most), api.ErrFull)
	refusesWrite(t, p, line(0, 4*most), api.ErrFull)
	is(t, "full", p, most, 1, 1)
	reads(t, p, 1, line(1, 1))
	writes(t, p, "yz", 1)
	refusesWrite(t, p, "z", api.ErrFull)
	held(t, "full again", p, line(2, most-2)+"xy", 1, 1)
}

func TestTheEmptyTextChangesNothing(t *testing.T) {
	each(t, func(p *pipe.Pipe, bytes string, from, into int) {
		if from == 0 {
			refusesWrite(t, p, "", api.ErrDevice) // told ahead of it
		} else {
			writes(t, p, "", 0)
		}
		held(t, "the empty text", p, bytes, from, into)
	})
}

func TestWriteWithNoFromOpen(t *testing.T) {
	each(t, func(p *pipe.Pipe, bytes string, from, into int) {
		for range from {
			closes(t, p, api.From)
		}
		for _, s := range []string{"", "a", line(0, most), line(0, most+1), line(0, 1000)} { // also into a full one
			refusesWrite(t, p, s, api.ErrDevice)
			is(t, "behind a Write that is refused", p, len(bytes), 0, into)
		}
		held(t, "no From", p, bytes, 0, into)
	})
}

func TestTheLastFromIsClosedAndOpenedAgain(t *testing.T) {
	p := made(t, "", 2, 1)
	closes(t, p, api.From)
	writes(t, p, "abc", 3) // one is left
	closes(t, p, api.From)
	refusesWrite(t, p, "d", api.ErrDevice)
	is(t, "no From", p, 3, 0, 1)
	reads(t, p, 1, "a") // what is there is there
	opens(t, p, api.From)
	writes(t, p, "de", 2)
	held(t, "a From again", p, "bcde", 1, 1)
}

func TestTheLastIntoIsClosedWhileBytesAreLeft(t *testing.T) {
	p := made(t, "abcde", 1, 2)
	closes(t, p, api.Into)
	reads(t, p, 1, "a")
	closes(t, p, api.Into)
	is(t, "no Into", p, 4, 1, 0)
	reads(t, p, 2, "bc")
	reads(t, p, 9, "de")
	for _, n := range append([]int{0, 1, most}, great...) {
		reads(t, p, n, "")
	}
	opens(t, p, api.Into)
	refusesRead(t, p, 1, api.ErrNone)
	writes(t, p, "f", 1)
	held(t, "an Into again", p, "f", 1, 1)
}

func TestReadOfNone(t *testing.T) {
	for from := range 3 {
		for into := range 3 {
			p := made(t, "", from, into)
			for _, n := range append([]int{1, 2, most}, great...) {
				if into == 0 {
					reads(t, p, n, "")
				} else {
					refusesRead(t, p, n, api.ErrNone)
				}
			}
			reads(t, p, 0, "") // told ahead of ErrNone
			held(t, "none", p, "", from, into)
		}
	}
}

func TestReadOfNoBytes(t *testing.T) {
	each(t, func(p *pipe.Pipe, bytes string, from, into int) {
		reads(t, p, 0, "")
		held(t, "behind Read(0)", p, bytes, from, into)
	})
}

func TestReadBelowZero(t *testing.T) {
	each(t, func(p *pipe.Pipe, bytes string, from, into int) {
		for _, n := range belowZero { // told ahead of ErrNone
			refusesRead(t, p, n, api.ErrRange)
			is(t, "behind a Read that is refused", p, len(bytes), from, into)
		}
		held(t, "below 0", p, bytes, from, into)
	})
}

func TestReadOfMoreThanThereAre(t *testing.T) {
	for _, n := range great {
		each(t, func(p *pipe.Pipe, bytes string, from, into int) {
			if bytes == "" {
				return // TestReadOfNone
			}
			reads(t, p, n, bytes)
			held(t, "all are taken", p, "", from, into)
		})
	}
}

// Behind each number of bytes that went through before, a pipe is filled and emptied again and again.
func TestWhatIsWrittenGoesRound(t *testing.T) {
	for ahead := range 2*most + 1 {
		p := made(t, "", 1, 1)
		for range ahead {
			writes(t, p, "-", 1)
			reads(t, p, 1, "-")
		}
		for round := range 5 {
			writes(t, p, line(round*40, most), most)
			refusesWrite(t, p, "+", api.ErrFull)
			reads(t, p, most, line(round*40, most))
			refusesRead(t, p, 1, api.ErrNone)
		}
	}
}

// One long text goes through in pieces of one length, and comes out in pieces of another.
func TestPiecesOfOtherLengths(t *testing.T) {
	long := line(7, 1000)
	for in := 1; in <= most+2; in++ {
		for out := 1; out <= most+2; out++ {
			p := made(t, "", 1, 1)
			got, went := "", 0
			for len(got) < len(long) {
				if went < len(long) && p.Len() < most {
					n := min(in, len(long)-went, most-p.Len())
					writes(t, p, long[went:min(went+in, len(long))], n)
					went += n
				}
				n := min(out, p.Len())
				reads(t, p, out, long[len(got):len(got)+n])
				got += long[len(got) : len(got)+n]
			}
			held(t, "gone through", p, "", 1, 1)
		}
	}
}

func TestBytesOfEveryValue(t *testing.T) {
	p := made(t, "", 1, 1)
	for v := range 256 {
		writes(t, p, line(v, 1), 1)
		reads(t, p, 1, line(v, 1))
		writes(t, p, line(v, most), most)
		reads(t, p, most, line(v, most))
	}
}

// Texts are bytes: they are cut and told byte by byte, valid or not.
func TestTextsThatAreCut(t *testing.T) {
	texts := []string{"\x00", "\x00\x00\x00", "\xff\xfe", "é", "日本語", "😀", "\xc3", "\xa9", "\xed\xa0\x80", "\xf0\x9f", "a\x00b\n", "\ufffd"}
	for _, s := range texts {
		for room := 1; room <= len(s); room++ {
			p := made(t, line(1, most-room), 1, 1)
			writes(t, p, s, room)
			reads(t, p, most-room, line(1, most-room))
			for i := range room {
				reads(t, p, 1, s[i:i+1])
			}
			held(t, "cut", p, "", 1, 1)
		}
	}
}

func TestWhichErrorComesFirst(t *testing.T) {
	full := made(t, line(0, most), 0, 1)
	refusesWrite(t, full, "a", api.ErrDevice) // ahead of ErrFull
	refusesWrite(t, full, "", api.ErrDevice)  // ahead of the empty text
	opens(t, full, api.From)
	refusesWrite(t, full, "a", api.ErrFull)
	writes(t, full, "", 0) // ahead of ErrFull
	held(t, "full", full, line(0, most), 1, 1)

	none := made(t, "", 0, 1)
	refusesRead(t, none, -1, api.ErrRange) // ahead of ErrNone
	reads(t, none, 0, "")                  // ahead of ErrNone
	refusesRead(t, none, 1, api.ErrNone)
	wrong(t, "Close", none.Close(api.From), api.ErrState)
	wrong(t, "Close", none.Close(api.File), api.ErrArg) // ahead of ErrState
	held(t, "none", none, "", 0, 1)
}

func TestAnAnswerIsTheCallers(t *testing.T) {
	p := made(t, "abcd", 1, 1)
	first, err := p.Read(2)
	wrong(t, "Read", err, api.OK)
	writes(t, p, line(100, most), most-2)
	second, err := p.Read(4)
	wrong(t, "Read", err, api.OK)
	writes(t, p, "****", 4)
	if want := "cd" + line(100, 2); first != "ab" || second != want {
		t.Errorf("%q, %q: want %q, %q", first, second, "ab", want)
	}
}

// Bytes that were read, and ends that were closed, leave nothing.
func TestAPipeThatIsEmptyAgainIsTheZeroValue(t *testing.T) {
	each(t, func(p *pipe.Pipe, bytes string, from, into int) {
		held(t, "emptied", p, bytes, from, into)
		for range from {
			closes(t, p, api.From)
		}
		for range into {
			closes(t, p, api.Into)
		}
		if *p != (pipe.Pipe{}) {
			t.Errorf("%v: want the zero value", *p)
		}
	})
}

func TestPipesShareNothing(t *testing.T) {
	a, b := made(t, "abc", 1, 2), made(t, "xy", 2, 0)
	writes(t, a, "d", 1)
	reads(t, b, 1, "x")
	opens(t, b, api.Into)
	closes(t, a, api.From)
	is(t, "a", a, 4, 0, 2)
	is(t, "b", b, 1, 2, 1)
	writes(t, b, line(0, most), most-1)
	refusesWrite(t, a, "e", api.ErrDevice)
	var c pipe.Pipe
	held(t, "c", &c, "", 0, 0)
	held(t, "a", a, "abcd", 0, 2)
	held(t, "b", b, "y"+line(0, most-1), 2, 1)
}

func TestAPipeThatIsNilHasNoEnds(t *testing.T) {
	var p *pipe.Pipe
	for _, end := range append([]int{api.From, api.Into}, wrongEnds...) {
		wrong(t, "Open", p.Open(end), api.ErrArg)
		wrong(t, "Close", p.Close(end), api.ErrArg)
	}
	for _, s := range []string{"", "a", line(0, most+1)} {
		refusesWrite(t, p, s, api.ErrDevice)
	}
	refusesRead(t, p, -1, api.ErrRange)
	reads(t, p, 0, "")
	reads(t, p, math.MaxInt, "")
	is(t, "nil", p, 0, 0, 0)
}
