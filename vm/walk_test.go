package vm_test

import (
	"testing"

	"almshouse/api"
	"almshouse/vm"
)

// die has numbers that look drawn, the same each time.
type die uint64

func (d *die) below(n int) int {
	*d = *d*6364136223846793005 + 1442695040888963407
	return int(uint64(*d>>33) % uint64(n))
}

// leaf is a page by the document's words: each has words of its own, shared or not. Frames are numbers that are never used again (0: it has none).
type leaf struct {
	there bool
	prot  int
	frame int
	words [api.Words]int64
}

type leaves [api.MaxPages]leaf

// book is all spaces over one store.
type book struct {
	frames int
	used   int // the last number of a frame
	spaces []*leaves
}

// has tells how many pages have a frame.
func (b *book) has(frame int) int {
	n := 0
	for _, x := range b.spaces {
		for _, l := range x {
			if l.frame == frame {
				n++
			}
		}
	}
	return n
}

func (b *book) left() int {
	left := b.frames
	for f := 1; f <= b.used; f++ {
		if b.has(f) > 0 {
			left--
		}
	}
	return left
}

func (x *leaves) count() (pages, resident int) {
	for _, l := range x {
		if l.there {
			pages++
		}
		if l.frame != 0 {
			resident++
		}
	}
	return pages, resident
}

// span tells whether there are n pages from at on, and how many of these are there.
func (x *leaves) span(at, n int) (is bool, pages int) {
	if n < 1 || at < 0 || at+n > api.MaxPages {
		return false, 0
	}
	for _, l := range x[at : at+n] {
		if l.there {
			pages++
		}
	}
	return true, pages
}

func (x *leaves) mapped(at, n, prot int) api.Errno {
	is, pages := x.span(at, n)
	switch {
	case !is:
		return api.ErrRange
	case prot < 1 || prot > 3:
		return api.ErrArg
	case pages > 0:
		return api.ErrTwice
	}
	for i := at; i < at+n; i++ {
		x[i] = leaf{there: true, prot: prot}
	}
	return api.OK
}

func (x *leaves) unmapped(at, n int) api.Errno {
	is, pages := x.span(at, n)
	switch {
	case !is:
		return api.ErrRange
	case pages < n:
		return api.ErrMissing
	}
	clear(x[at : at+n])
	return api.OK
}

func (x *leaves) protected(at, n, prot int) api.Errno {
	is, pages := x.span(at, n)
	switch {
	case !is:
		return api.ErrRange
	case prot < 1 || prot > 3:
		return api.ErrArg
	case pages < n:
		return api.ErrMissing
	}
	for i := at; i < at+n; i++ {
		x[i].prot = prot
	}
	return api.OK
}

func (x *leaves) usable(at, w, use int) api.Errno {
	switch {
	case at < 0 || at >= api.MaxPages || !x[at].there:
		return api.ErrMissing
	case w < 0 || w >= api.Words:
		return api.ErrRange
	case x[at].prot&use == 0:
		return api.ErrFalse
	}
	return api.OK
}

func (b *book) stored(x *leaves, at, w int, v int64) api.Errno {
	if e := x.usable(at, w, api.Writes); e != api.OK {
		return e
	}
	l := &x[at]
	if l.frame == 0 || b.has(l.frame) > 1 {
		if b.left() == 0 {
			return api.ErrFull
		}
		b.used++
		l.frame = b.used
	}
	l.words[w] = v
	return api.OK
}

// walk is a book, and the spaces that are held against it.
type walk struct {
	*book
	st  *vm.Store
	all []*vm.Space
}

func begin(t *testing.T, frames int) *walk {
	t.Helper()
	st, s := over(t, frames)
	return &walk{book: &book{frames: frames, spaces: []*leaves{{}}}, st: st, all: []*vm.Space{s}}
}

// step asks one thing of the space i.
func (k *walk) step(t *testing.T, d *die, i, pages int) {
	t.Helper()
	s, x := k.all[i], k.spaces[i]
	at, n := d.below(pages)-d.below(30)/29, d.below(4)+d.below(30)/29*(api.MaxPages-1)
	prot := 1 + d.below(3) + d.below(20)/19
	switch do := d.below(32); {
	case do < 6:
		if prot <= both && d.below(2) == 0 { // most pages are for both, so that much is written
			prot = both
		}
		wrong(t, "Map", s.Map(at, n, prot), x.mapped(at, n, prot))
	case do < 8:
		wrong(t, "Unmap", s.Unmap(at, n), x.unmapped(at, n))
	case do < 12:
		wrong(t, "Protect", s.Protect(at, n, prot), x.protected(at, n, prot))
	case do < 28:
		w, v := d.below(api.Words)-d.below(30)/29+d.below(30)/29, int64(d.below(5))
		wrong(t, "Store", s.Store(at, w, v), k.stored(x, at, w, v))
	case do < 31 && len(k.all) < 6:
		k.all = append(k.all, s.Fork())
		y := *x
		k.spaces = append(k.spaces, &y)
	case do == 31:
		s.Clear()
		*x = leaves{}
	}
}

// same holds all that can be seen of all spaces against the book.
func (k *walk) same(t *testing.T) {
	t.Helper()
	for i, s := range k.all {
		x := k.spaces[i]
		pages, resident := x.count()
		is(t, "on a walk", s, k.st, pages, resident, k.left())
		for at := range x {
			for w, want := range x[at].words {
				e := x.usable(at, w, api.Reads)
				if e != api.OK {
					want = 0
				}
				if v, err := s.Load(at, w); v != want || api.Tell(err) != e {
					t.Errorf("space %d: Load(%d, %d): %d, %v: want %d, error %d", i, at, w, v, err, want, e)
				}
			}
		}
	}
}

// Long walks of several spaces over one store, held against a book of all pages.
func TestWalksAreAsTheDocumentSays(t *testing.T) {
	d := die(5)
	for walk := range 60 {
		frames, pages := 1+d.below(12), 1+d.below(8)
		k := begin(t, frames)
		for step := range 150 {
			k.step(t, &d, d.below(len(k.all)), pages)
			k.same(t)
			if t.Failed() {
				t.Fatalf("walk %d, step %d, of %d frames", walk, step, frames)
			}
		}
		for i, s := range k.all {
			s.Clear()
			*k.spaces[i] = leaves{}
			k.same(t)
		}
		if k.st.Left() != frames {
			t.Fatalf("walk %d: %d of %d frames came back", walk, k.st.Left(), frames)
		}
	}
}
