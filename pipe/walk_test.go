package pipe_test

import (
	"testing"

	"almshouse/api"
	"almshouse/pipe"
)

// die has numbers that look drawn, the same each time.
type die uint64

func (d *die) below(n int) int {
	*d = *d*6364136223846793005 + 1442695040888963407
	return int(uint64(*d>>33) % uint64(n))
}

// text is up to n bytes, of any value.
func (d *die) text(n int) string {
	b := make([]byte, d.below(n+1))
	for i := range b {
		b[i] = byte(d.below(256))
	}
	return string(b)
}

// book is a pipe by the document's words: all that ever went in and came out stays in it.
type book struct {
	in, out    string
	from, into int
}

func (b *book) opened(end int) api.Errno {
	switch end {
	case api.From:
		b.from++
	case api.Into:
		b.into++
	default:
		return api.ErrArg
	}
	return api.OK
}

func (b *book) closed(end int) api.Errno {
	count := &b.from
	switch end {
	case api.From:
	case api.Into:
		count = &b.into
	default:
		return api.ErrArg
	}
	if *count == 0 {
		return api.ErrState
	}
	*count--
	return api.OK
}

func (b *book) wrote(s string) (int, api.Errno) {
	room := api.PipeBytes - (len(b.in) - len(b.out))
	switch {
	case b.from == 0:
		return 0, api.ErrDevice
	case s == "":
		return 0, api.OK
	case room == 0:
		return 0, api.ErrFull
	}
	n := min(room, len(s))
	b.in += s[:n]
	return n, api.OK
}

func (b *book) read(n int) (string, api.Errno) {
	there := b.in[len(b.out):]
	switch {
	case n < 0:
		return "", api.ErrRange
	case n == 0:
		return "", api.OK
	case there == "" && b.into > 0:
		return "", api.ErrNone
	}
	s := there[:min(n, len(there))]
	b.out += s
	return s, api.OK
}

// step asks one thing of a pipe, and holds it against the book. Now and then a number is wrong.
func (b *book) step(t *testing.T, d *die, p *pipe.Pipe, piece int) {
	t.Helper()
	end := api.From + d.below(2) + (d.below(15)/14)*(d.below(5)-2)
	switch do := d.below(16); {
	case do < 2:
		wrong(t, "Open", p.Open(end), b.opened(end))
	case do < 4:
		wrong(t, "Close", p.Close(end), b.closed(end))
	case do < 10:
		s := d.text(piece)
		n, err := p.Write(s)
		want, e := b.wrote(s)
		wrong(t, "Write", err, e)
		if n != want {
			t.Errorf("Write(%q): %d: want %d", s, n, want)
		}
	default:
		m := d.below(piece+1) - d.below(20)/19
		s, err := p.Read(m)
		want, e := b.read(m)
		wrong(t, "Read", err, e)
		if s != want {
			t.Errorf("Read(%d): %q: want %q", m, s, want)
		}
	}
	is(t, "on a walk", p, len(b.in)-len(b.out), b.from, b.into)
}

// Long walks of two pipes at a time, held against books of all that went through them.
func TestWalksAreAsTheDocumentSays(t *testing.T) {
	d := die(6)
	for walk := range 200 {
		var pipes [2]pipe.Pipe
		var books [2]book
		piece := 1 + d.below(2*api.PipeBytes)
		for step := range 300 {
			i := d.below(len(pipes))
			books[i].step(t, &d, &pipes[i], piece)
			if t.Failed() {
				t.Fatalf("walk %d, step %d, pipe %d, pieces of up to %d", walk, step, i, piece)
			}
		}
		for i := range pipes {
			held(t, "at the end of a walk", &pipes[i], books[i].in[len(books[i].out):], books[i].from, books[i].into)
		}
	}
}
