package slab_test

import (
	"math"
	"slices"
	"testing"

	"almshouse/api"
	"almshouse/buddy"
	"almshouse/plain"
	"almshouse/slab"
)

const most = 16 // things in a frame

func pool(t *testing.T, n int) *buddy.Pool {
	t.Helper()
	p, err := buddy.New(n)
	if err != nil {
		t.Fatalf("buddy.New(%d): %v: want a pool", n, err)
	}
	return p
}

func made(t *testing.T, p *buddy.Pool, per int) *slab.Cache {
	t.Helper()
	c, err := slab.New(p, per)
	if err != nil || c == nil {
		t.Fatalf("New(%d): %v, %v: want a cache", per, c, err)
	}
	return c
}

// over is a cache over a pool of its own.
func over(t *testing.T, frames, per int) (*buddy.Pool, *slab.Cache) {
	t.Helper()
	p := pool(t, frames)
	return p, made(t, p, per)
}

// makes makes one thing for each number that is wanted.
func makes(t *testing.T, c *slab.Cache, want ...int) {
	t.Helper()
	for _, w := range want {
		if n, err := c.Alloc(); err != nil || n != w {
			t.Fatalf("Alloc: %d, %v: want %d", n, err, w)
		}
	}
}

func gives(t *testing.T, c *slab.Cache, things ...int) {
	t.Helper()
	for _, n := range things {
		if err := c.Give(n); err != nil {
			t.Fatalf("Give(%d): %v: want no error", n, err)
		}
	}
}

func reaps(t *testing.T, c *slab.Cache, want int) {
	t.Helper()
	if n := c.Reap(); n != want {
		t.Errorf("Reap: %d: want %d", n, want)
	}
}

func is(t *testing.T, what string, c *slab.Cache, p *buddy.Pool, things, frames, left int) {
	t.Helper()
	if c.Things() != things || c.Frames() != frames || p.Left() != left {
		t.Errorf("%s: %d things, %d frames, %d left: want %d, %d, %d", what,
			c.Things(), c.Frames(), p.Left(), things, frames, left)
	}
}

// free tells which blocks of the pool the cache has left.
func free(t *testing.T, p *buddy.Pool, want ...api.Block) {
	t.Helper()
	if got := p.Free(); !slices.Equal(got, want) {
		t.Errorf("the pool has %v: want %v", got, want)
	}
}

func wrong(t *testing.T, what string, err error, want api.Errno) {
	t.Helper()
	if e, place := plain.Place(err); e != want || place != -1 {
		t.Errorf("%s: error %d at %d: want %d, without a place", what, e, place, want)
	}
}

func full(t *testing.T, c *slab.Cache, p *buddy.Pool) {
	t.Helper()
	things, frames, left := c.Things(), c.Frames(), p.Left()
	n, err := c.Alloc()
	wrong(t, "Alloc", err, api.ErrFull)
	if n != 0 {
		t.Errorf("Alloc: %d beside an error", n)
	}
	is(t, "after an Alloc that is refused", c, p, things, frames, left)
}

func missing(t *testing.T, c *slab.Cache, p *buddy.Pool, numbers ...int) {
	t.Helper()
	things, frames, left := c.Things(), c.Frames(), p.Left()
	for _, n := range numbers {
		if err := c.Give(n); err == nil {
			t.Errorf("Give(%d): no error", n)
		} else {
			wrong(t, "Give", err, api.ErrMissing)
		}
	}
	is(t, "after a Give that is refused", c, p, things, frames, left)
}

// span is a rising row of numbers.
func span(from, end int) []int {
	var l []int
	for n := from; n < end; n++ {
		l = append(l, n)
	}
	return l
}

func TestNewHasNoFrames(t *testing.T) {
	for per := 1; per <= most; per++ {
		p, c := over(t, 3, per)
		is(t, "a new cache", c, p, 0, 0, 3)
		reaps(t, c, 0)
		missing(t, c, p, 0, 1, per, 3*per-1)
		makes(t, c, 2*per) // of three frames the last one is free alone
		is(t, "one thing", c, p, 1, 1, 2)
	}
}

func TestNewRefusesWrongNumbers(t *testing.T) {
	p := pool(t, 2)
	for _, per := range []int{math.MinInt, -most, -1, 0, most + 1, 2 * most, math.MaxInt} {
		c, err := slab.New(p, per)
		wrong(t, "New", err, api.ErrRange)
		if c != nil {
			t.Errorf("New(%d): a cache beside an error", per)
		}
	}
	if p.Left() != 2 {
		t.Errorf("a New that is refused: %d left: want 2", p.Left())
	}
}

func TestNewOfNoPool(t *testing.T) {
	for _, per := range []int{1, most, 0, most + 1, math.MinInt, math.MaxInt} { // told ahead of ErrRange
		c, err := slab.New(nil, per)
		wrong(t, "New", err, api.ErrMissing)
		if c != nil {
			t.Errorf("New(nil, %d): a cache beside an error", per)
		}
	}
}

func TestANumberIsTheFrameTimesPerAndThePlace(t *testing.T) {
	for _, per := range []int{1, 2, 3, 7, most - 1, most} {
		p, c := over(t, 4, per)
		for n := range 4 * per {
			makes(t, c, n)
			frames := n/per + 1
			is(t, "made one by one", c, p, n+1, frames, 4-frames)
		}
		full(t, c, p)
	}
}

func TestOneInAFrame(t *testing.T) {
	p, c := over(t, 4, 1)
	makes(t, c, 0, 1, 2, 3)
	is(t, "all frames are full", c, p, 4, 4, 0)
	gives(t, c, 2, 1)
	is(t, "two have none", c, p, 2, 4, 0)
	makes(t, c, 1, 2)
	full(t, c, p)
}

func TestAllThingsOfAllFrames(t *testing.T) {
	p, c := over(t, api.MaxFrames, most)
	makes(t, c, span(0, api.MaxFrames*most)...)
	is(t, "all there can be", c, p, api.MaxFrames*most, api.MaxFrames, 0)
	full(t, c, p)
	missing(t, c, p, api.MaxFrames*most)
	gives(t, c, api.MaxFrames*most-1)
	missing(t, c, p, api.MaxFrames*most-1)
	makes(t, c, api.MaxFrames*most-1)
}

func TestTheLeastPlaceIsTaken(t *testing.T) {
	p, c := over(t, 1, most)
	makes(t, c, span(0, most)...)
	gives(t, c, 9, 15, 0, 4)
	is(t, "four are given", c, p, 12, 1, 0)
	makes(t, c, 0, 4, 9, 15)
	full(t, c, p)
}

func TestTheLeastFrameIsTaken(t *testing.T) {
	_, c := over(t, 8, 2)
	makes(t, c, span(0, 12)...)
	gives(t, c, 11, 7, 4) // a thing is left in each of frames 5, 3 and 2
	makes(t, c, 4, 7, 11, 12)
}

// A pool gives frames in an order that need not rise: of five, the last one comes first.
func TestTheLeastFrameIsTakenThoughItCameLater(t *testing.T) {
	p, c := over(t, 5, 2)
	makes(t, c, 8, 9, 0, 1)
	is(t, "frames 4 and 0", c, p, 4, 2, 3)
	gives(t, c, 9, 1)
	makes(t, c, 1, 9)
	gives(t, c, 8, 9, 0, 1)
	is(t, "both are without things", c, p, 0, 2, 3)
	makes(t, c, 0, 1, 8)
}

func TestAFrameWithThingsGoesAheadOfOneWithout(t *testing.T) {
	p, c := over(t, 4, 3)
	makes(t, c, span(0, 9)...)
	gives(t, c, 0, 1, 2) // frame 0: none; 1: full; 2: a place
	gives(t, c, 7)
	is(t, "nine less four", c, p, 5, 3, 1)
	makes(t, c, 7, 0) // frame 0 goes ahead of a new one
	gives(t, c, 4)
	makes(t, c, 1, 2, 4) // both have things now: the least one
	is(t, "three are full", c, p, 9, 3, 1)
	makes(t, c, 9)
	is(t, "a new one", c, p, 10, 4, 0)
}

func TestOfFramesWithoutThingsTheLeastIsTaken(t *testing.T) {
	p, c := over(t, 4, 2)
	makes(t, c, span(0, 8)...)
	gives(t, c, 6, 7, 2, 3, 4, 5)
	makes(t, c, 2, 3, 4, 5, 6, 7)
	full(t, c, p)
}

func TestGiveLeavesTheFrame(t *testing.T) {
	p, c := over(t, 2, 2)
	makes(t, c, 0)
	gives(t, c, 0)
	is(t, "its only thing is given", c, p, 0, 1, 1)
	free(t, p, api.Block{Base: 1, Order: 0})
	makes(t, c, 0, 1, 2)
	is(t, "made again", c, p, 3, 2, 0)
}

func TestGivenInAnyOrder(t *testing.T) {
	const n = 4 * 5
	ways := []func(i int) int{
		func(i int) int { return i },
		func(i int) int { return n - 1 - i },
		func(i int) int { return (i*7 + 3) % n }, // 7 and 20 have no part in common: each one once
	}
	for _, way := range ways {
		p, c := over(t, 4, 5)
		makes(t, c, span(0, n)...)
		for i := range n {
			gives(t, c, way(i))
			missing(t, c, p, way(i))
			is(t, "given one by one", c, p, n-1-i, 4, 0)
		}
		reaps(t, c, 4)
		is(t, "all is given back", c, p, 0, 0, 4)
		makes(t, c, span(0, n)...)
	}
}

func TestReapLeavesFramesWithThings(t *testing.T) {
	p, c := over(t, 4, 2)
	makes(t, c, span(0, 8)...)
	reaps(t, c, 0)
	gives(t, c, 1, 4) // frames 0 and 2 have one thing yet
	reaps(t, c, 0)
	is(t, "no frame is without things", c, p, 6, 4, 0)
	gives(t, c, 5, 2, 3)
	reaps(t, c, 2)
	is(t, "frames 1 and 2 are given back", c, p, 3, 2, 2)
	free(t, p, api.Block{Base: 1, Order: 0}, api.Block{Base: 2, Order: 0})
	reaps(t, c, 0)
	missing(t, c, p, 1, 2, 3, 4, 5)
	makes(t, c, 1, 2, 3, 4)
	is(t, "made behind it", c, p, 7, 4, 0)
	gives(t, c, 0, 1, 2, 3, 4, 6, 7)
	reaps(t, c, 4)
	is(t, "all are given back", c, p, 0, 0, 4)
	free(t, p, api.Block{Base: 0, Order: 2})
}

func TestGiveRefusesWhatWasNotMade(t *testing.T) {
	p, c := over(t, 4, 3)
	makes(t, c, 0, 1)
	missing(t, c, p, math.MinInt, -12, -3, -2, -1, 2, 3, 4, 5, 6, 11, 12, 13, 64, math.MaxInt)
	gives(t, c, 1) // what was refused has kept each thing
	missing(t, c, p, 1)
	gives(t, c, 0)
	missing(t, c, p, 0, 1, -1)
	reaps(t, c, 1)
	missing(t, c, p, 0, 1, -1, math.MinInt, math.MaxInt)
}

func TestGiveRefusesWhatWasGivenAndIsMadeAnew(t *testing.T) {
	p, c := over(t, 1, 2)
	makes(t, c, 0, 1)
	for range 3 {
		gives(t, c, 0)
		missing(t, c, p, 0, 2)
		makes(t, c, 0)
	}
	is(t, "as it was", c, p, 2, 1, 0)
}

func TestFramesThatOthersTook(t *testing.T) {
	p, c := over(t, 6, 2)
	makes(t, c, 8) // of six the two at 4 are the least block
	for _, want := range []int{5, 0, 1} {
		if f, err := p.Alloc(0); err != nil || f != want {
			t.Fatalf("the pool: %d, %v: want %d", f, err, want)
		}
	}
	missing(t, c, p, 10, 11, 0, 1, 2, 3)
	makes(t, c, 9, 4, 5, 6, 7)
	is(t, "three are others'", c, p, 6, 3, 0)
	full(t, c, p)
	reaps(t, c, 0)
	if err := p.Give(1, 0); err != nil {
		t.Fatal(err)
	}
	makes(t, c, 2)
	gives(t, c, 8, 9, 4, 5, 6, 7, 2)
	reaps(t, c, 4)
	is(t, "what others took stays theirs", c, p, 0, 0, 4)
}

func TestNoFrameAtAll(t *testing.T) {
	p, c := over(t, 2, most)
	b, err := p.Alloc(1)
	if err != nil {
		t.Fatal(err)
	}
	full(t, c, p)
	is(t, "others have all", c, p, 0, 0, 0)
	if err := p.Give(b, 1); err != nil {
		t.Fatal(err)
	}
	makes(t, c, 0)
}

func TestFullUntilThereIsAPlace(t *testing.T) {
	p, c := over(t, 2, 2)
	makes(t, c, 0, 1, 2, 3)
	full(t, c, p)
	full(t, c, p)
	gives(t, c, 2)
	makes(t, c, 2)
	full(t, c, p)
}

func TestTwoCachesOfOnePool(t *testing.T) {
	p := pool(t, 4)
	a, b := made(t, p, 2), made(t, p, most)
	makes(t, a, 0)
	makes(t, b, most, most+1)
	makes(t, a, 1, 4)
	is(t, "the first", a, p, 3, 2, 1)
	is(t, "the second", b, p, 2, 1, 1)
	missing(t, a, p, 2, 3, most)
	missing(t, b, p, 0, 1, 4)
	makes(t, a, 5, 6, 7)
	full(t, a, p)
	gives(t, b, most, most+1)
	full(t, a, p) // the frame is the other's yet
	reaps(t, a, 0)
	reaps(t, b, 1)
	makes(t, a, 2)
	full(t, b, p)
	is(t, "the second", b, p, 0, 0, 0)
}

func TestCachesShareNothing(t *testing.T) {
	p, a := over(t, 2, 2)
	q, b := over(t, 2, 2)
	makes(t, a, 0, 1, 2)
	is(t, "the other one", b, q, 0, 0, 2)
	missing(t, b, q, 0, 1, 2)
	makes(t, b, 0)
	is(t, "the first one", a, p, 3, 2, 0)
}

// die has numbers that look drawn, the same each time.
type die uint64

func (d *die) below(n int) int {
	*d = *d*6364136223846793005 + 1442695040888963407
	return int(uint64(*d>>33) % uint64(n))
}

// book is the document's words: of each frame whether the cache has it, and of each place whether it has a thing.
type book struct {
	per   int
	have  [api.MaxFrames]bool
	place [api.MaxFrames][most]bool
}

func (b *book) count(f int) int {
	n := 0
	for _, thing := range b.place[f] {
		if thing {
			n++
		}
	}
	return n
}

func (b *book) things() int {
	n := 0
	for f := range b.place {
		n += b.count(f)
	}
	return n
}

func (b *book) frames() int {
	n := 0
	for _, have := range b.have {
		if have {
			n++
		}
	}
	return n
}

// first is the first frame of the cache's with things from least on, ahead of end (-1: there is none).
func (b *book) first(least, end int) int {
	for f, have := range b.have {
		if n := b.count(f); have && n >= least && n < end {
			return f
		}
	}
	return -1
}

// alloc books a thing, and is the number that Alloc has to answer, if the pool's next frame is this one (-1: there is none).
func (b *book) alloc(frame int) int {
	f := b.first(1, b.per)
	if f < 0 {
		f = b.first(0, 1)
	}
	if f < 0 {
		f = frame
	}
	if f < 0 {
		return -1
	}
	b.have[f] = true
	at := slices.Index(b.place[f][:], false)
	b.place[f][at] = true
	return f*b.per + at
}

func (b *book) reap() int {
	n := 0
	for f, have := range b.have {
		if have && b.count(f) == 0 {
			b.have[f] = false
			n++
		}
	}
	return n
}

// frameOf is the frame that a pool would give (-1: there is none).
func frameOf(p *buddy.Pool) int {
	f, err := p.Alloc(0)
	if err != nil || p.Give(f, 0) != nil {
		return -1
	}
	return f
}

// Long walks, in which others take frames of the pool too, held against a book of all places.
func TestWalksAreAsTheDocumentSays(t *testing.T) {
	d := die(3)
	for walk := range 200 {
		n := 1 + d.below(12)
		b := &book{per: 1 + d.below(most)*d.below(3)/2}
		p, c := over(t, n, b.per)
		var others []int
		for step := range 150 {
			switch k := d.below(16); {
			case k < 7:
				walkAlloc(t, c, p, b)
			case k < 13:
				walkGive(t, c, p, b, d.below((n+1)*b.per))
			case k == 13:
				reaps(t, c, b.reap())
			case k == 14:
				if f, err := p.Alloc(0); err == nil {
					others = append(others, f)
				}
			case len(others) > 0:
				_ = p.Give(others[0], 0)
				others = others[1:]
			}
			is(t, "on a walk", c, p, b.things(), b.frames(), n-b.frames()-len(others))
			if t.Failed() {
				t.Fatalf("walk %d, step %d, of %d frames, %d in each", walk, step, n, b.per)
			}
		}
		walkEnd(t, c, p, b, n-len(others))
	}
}

func walkAlloc(t *testing.T, c *slab.Cache, p *buddy.Pool, b *book) {
	t.Helper()
	if n := b.alloc(frameOf(p)); n >= 0 {
		makes(t, c, n)
	} else {
		full(t, c, p)
	}
}

func walkGive(t *testing.T, c *slab.Cache, p *buddy.Pool, b *book, n int) {
	t.Helper()
	thing := &b.place[n/b.per][n%b.per]
	if *thing {
		gives(t, c, n)
		*thing = false
	} else {
		missing(t, c, p, n)
	}
}

func walkEnd(t *testing.T, c *slab.Cache, p *buddy.Pool, b *book, left int) {
	t.Helper()
	for n := range api.MaxFrames * b.per {
		walkGive(t, c, p, b, n)
	}
	reaps(t, c, b.reap())
	is(t, "all is given back", c, p, 0, 0, left)
}

func TestWhatNewRefusedHasNoFrames(t *testing.T) {
	p := pool(t, 1)
	c, _ := slab.New(p, 0)
	is(t, "no cache", c, p, 0, 0, 1)
	full(t, c, p)
	missing(t, c, p, -1, 0, 1)
	reaps(t, c, 0)
}
