package buddy_test

import (
	"math"
	"slices"
	"testing"

	"almshouse/api"
	"almshouse/buddy"
	"almshouse/plain"
)

const greatest = 1 << api.Orders // frames of the greatest block

var wrongOrders = []int{math.MinInt, -greatest, -1, api.Orders + 1, greatest, math.MaxInt}

func at(base, order int) api.Block { return api.Block{Base: base, Order: order} }

func made(t *testing.T, n int) *buddy.Pool {
	t.Helper()
	p, err := buddy.New(n)
	if err != nil || p == nil {
		t.Fatalf("New(%d): %v, %v: want a pool", n, p, err)
	}
	return p
}

func taken(t *testing.T, p *buddy.Pool, order int) api.Block {
	t.Helper()
	base, err := p.Alloc(order)
	if err != nil {
		t.Fatalf("Alloc(%d): %v: want a block", order, err)
	}
	return at(base, order)
}

func takenAt(t *testing.T, p *buddy.Pool, order, want int) {
	t.Helper()
	if b := taken(t, p, order); b.Base != want {
		t.Errorf("Alloc(%d): %d: want %d", order, b.Base, want)
	}
}

func given(t *testing.T, p *buddy.Pool, b api.Block) {
	t.Helper()
	if err := p.Give(b.Base, b.Order); err != nil {
		t.Fatalf("Give(%d, %d): %v: want no error", b.Base, b.Order, err)
	}
}

func wrong(t *testing.T, what string, err error, want api.Errno) {
	t.Helper()
	if e, place := plain.Place(err); e != want || place != -1 {
		t.Errorf("%s: error %d at %d: want %d, without a place", what, e, place, want)
	}
}

func notTaken(t *testing.T, p *buddy.Pool, order int, want api.Errno) {
	t.Helper()
	left, free := p.Left(), p.Free()
	base, err := p.Alloc(order)
	wrong(t, "Alloc", err, want)
	if base != 0 {
		t.Errorf("Alloc(%d): %d beside an error", order, base)
	}
	is(t, "after an Alloc that is refused", p, left, free...)
}

func notGiven(t *testing.T, p *buddy.Pool, base, order int) {
	t.Helper()
	left, free := p.Left(), p.Free()
	wrong(t, "Give", p.Give(base, order), api.ErrMissing)
	is(t, "after a Give that is refused", p, left, free...)
}

func is(t *testing.T, what string, p *buddy.Pool, left int, free ...api.Block) {
	t.Helper()
	if p.Left() != left {
		t.Errorf("%s: Left %d: want %d", what, p.Left(), left)
	}
	if got := p.Free(); !slices.Equal(got, free) {
		t.Errorf("%s: Free %v: want %v", what, got, free)
	}
}

// frames tell of each frame whether it is free: the document's words, without blocks that are kept.
type frames []bool

func allFree(n int) frames {
	l := make(frames, n)
	for f := range l {
		l[f] = true
	}
	return l
}

func (l frames) free(b api.Block) bool {
	end := b.Base + 1<<b.Order
	return end <= len(l) && !slices.Contains(l[b.Base:end], false)
}

func (l frames) mark(b api.Block, free bool) {
	for f := b.Base; f < b.Base+1<<b.Order; f++ {
		l[f] = free
	}
}

func (l frames) left() int {
	n := 0
	for _, free := range l {
		if free {
			n++
		}
	}
	return n
}

func (l frames) greatestAround(f int) api.Block {
	k := api.Orders
	for !l.free(at(f>>k<<k, k)) {
		k--
	}
	return at(f>>k<<k, k)
}

func (l frames) blocks() []api.Block {
	var out []api.Block
	for f, free := range l {
		if free {
			out = append(out, l.greatestAround(f))
		}
	}
	return slices.Compact(out)
}

// next is the base that Alloc has to answer (-1: none is so great).
func (l frames) next(order int) int {
	best := at(-1, api.Orders+1)
	for _, b := range l.blocks() {
		if b.Order >= order && b.Order < best.Order {
			best = b
		}
	}
	return best.Base
}

func TestNewHasAllFramesFree(t *testing.T) {
	for n := 1; n <= api.MaxFrames; n++ {
		is(t, "a new pool", made(t, n), n, allFree(n).blocks()...)
	}
}

func TestNewAtNumbersThatAreNoPowerOfTwo(t *testing.T) {
	is(t, "1", made(t, 1), 1, at(0, 0))
	is(t, "5", made(t, 5), 5, at(0, 2), at(4, 0))
	is(t, "7", made(t, 7), 7, at(0, 2), at(4, 1), at(6, 0))
	is(t, "63", made(t, 63), 63, at(0, 5), at(32, 4), at(48, 3),
		at(56, 2), at(60, 1), at(62, 0))
	is(t, "66", made(t, 66), 66, at(0, 6), at(64, 1))
	is(t, "256", made(t, 256), 256, at(0, 6), at(64, 6),
		at(128, 6), at(192, 6))
}

func TestNewRefusesWhatIsOutOfRange(t *testing.T) {
	for _, n := range []int{math.MinInt, -1, 0, api.MaxFrames + 1, math.MaxInt} {
		p, err := buddy.New(n)
		wrong(t, "New", err, api.ErrRange)
		if p != nil {
			t.Errorf("New(%d): a pool beside an error", n)
		}
	}
}

func TestTheDocumentsExample(t *testing.T) {
	p := made(t, 5)
	takenAt(t, p, 0, 4) // the least order that has one, though its base is greater
	given(t, p, at(4, 0))
	takenAt(t, p, 1, 0)
	is(t, "a block of two is taken", p, 3, at(2, 1), at(4, 0))
}

func TestAllocTakesTheLeastOrderThenTheLeastBase(t *testing.T) {
	p := made(t, 14) // free: 8 at 0, 4 at 8, 2 at 12
	takenAt(t, p, 0, 12)
	takenAt(t, p, 1, 8)
	is(t, "two are taken", p, 11, at(0, 3), at(10, 1), at(13, 0))
	takenAt(t, p, 2, 0)
	takenAt(t, p, 0, 13)
	takenAt(t, p, 0, 10)
	is(t, "five are taken", p, 5, at(4, 2), at(11, 0))
	given(t, p, at(13, 0))
	is(t, "one is given back", p, 6, at(4, 2), at(11, 0), at(13, 0))
	takenAt(t, p, 0, 11)
	takenAt(t, p, 0, 13)
	takenAt(t, p, 0, 4)
}

func TestAllocHalvesAgainAndAgain(t *testing.T) {
	p := made(t, greatest)
	takenAt(t, p, 0, 0)
	var halves []api.Block
	for k := range api.Orders {
		halves = append(halves, at(1<<k, k))
	}
	is(t, "one frame is taken", p, greatest-1, halves...)
	given(t, p, at(0, 0))
	is(t, "it is given back", p, greatest, at(0, api.Orders))
}

func TestGreatestBlocksAndTheirHalves(t *testing.T) {
	const half = greatest / 2
	p := made(t, 2*greatest)
	takenAt(t, p, api.Orders, 0)
	takenAt(t, p, api.Orders-1, greatest)
	is(t, "one and a half", p, half, at(greatest+half, api.Orders-1))
	notTaken(t, p, api.Orders, api.ErrFull)
	takenAt(t, p, api.Orders-1, greatest+half)
	given(t, p, at(greatest, api.Orders-1))
	notTaken(t, p, api.Orders, api.ErrFull)
	given(t, p, at(greatest+half, api.Orders-1))
	is(t, "both halves are one", p, greatest, at(greatest, api.Orders))
	given(t, p, at(0, api.Orders))
	is(t, "none is greater than the greatest", p, 2*greatest, at(0, api.Orders), at(greatest, api.Orders))
}

func TestFreeNeighboursThatAreNoHalvesStayTwo(t *testing.T) {
	p := made(t, 8)
	for f := range 8 {
		takenAt(t, p, 0, f)
	}
	for f := 1; f < 7; f++ {
		given(t, p, at(f, 0))
	}
	is(t, "six of eight", p, 6, at(1, 0), at(2, 1), at(4, 1), at(6, 0))
	notTaken(t, p, 2, api.ErrFull)
}

func TestLastFrames(t *testing.T) {
	p := made(t, 67) // free: 64 at 0, 2 at 64, 1 at 66
	takenAt(t, p, 0, 66)
	takenAt(t, p, 1, 64)
	is(t, "the last frames are taken", p, 64, at(0, api.Orders))
	given(t, p, at(64, 1))
	given(t, p, at(66, 0))
	is(t, "there is no frame behind them", p, 67, at(0, api.Orders), at(64, 1), at(66, 0))
}

func TestAllocRefusesWrongOrders(t *testing.T) {
	p := made(t, api.MaxFrames)
	for _, k := range wrongOrders {
		notTaken(t, p, k, api.ErrArg)
	}
	for range api.MaxFrames / greatest {
		taken(t, p, api.Orders)
	}
	for _, k := range wrongOrders { // ErrArg is told ahead of ErrFull
		notTaken(t, p, k, api.ErrArg)
	}
}

func TestTakenUntilThereIsNone(t *testing.T) {
	for _, n := range []int{1, 2, 5, 63, 64, 65, 127, 200, api.MaxFrames - 1, api.MaxFrames} {
		for k := 0; k <= api.Orders; k++ {
			p, frames := made(t, n), allFree(n)
			for range n >> k {
				b := taken(t, p, k)
				if b.Base%(1<<k) != 0 || !frames.free(b) {
					t.Fatalf("of %d: Alloc(%d): %d: want a block that is free", n, k, b.Base)
				}
				frames.mark(b, false)
			}
			is(t, "all are taken", p, n%(1<<k), frames.blocks()...)
			notTaken(t, p, k, api.ErrFull)
			notTaken(t, p, api.Orders, api.ErrFull)
		}
	}
}

func TestABlockThatIsTooSmallIsNotTaken(t *testing.T) {
	for k := 1; k <= api.Orders; k++ {
		p := made(t, 1<<k-1)
		notTaken(t, p, k, api.ErrFull)
		takenAt(t, p, k-1, 0)
	}
}

func TestAllComesBackInAnyOrder(t *testing.T) {
	orders := []int{0, 3, 1, 0, 5, 2, 0, 1, 4, 0, 2}
	ways := []func(i, n int) int{
		func(i, _ int) int { return i },
		func(i, n int) int { return n - 1 - i },
		func(i, n int) int { return (i*7 + 3) % n }, // 7 and 11 have no part in common: each one once
	}
	for _, n := range []int{100, 119, 128, 255, api.MaxFrames} {
		for _, way := range ways {
			p := made(t, n)
			first := p.Free()
			var l []api.Block
			for _, k := range orders {
				l = append(l, taken(t, p, k))
			}
			for i := range l {
				given(t, p, l[way(i, len(l))])
			}
			is(t, "all is given back", p, n, first...)
		}
	}
}

func TestGiveRefusesWhatIsNotTaken(t *testing.T) {
	p := made(t, 16)
	for _, base := range []int{math.MinInt, -16, -1, 0, 1, 15, 16, 17, api.MaxFrames, math.MaxInt} {
		for _, k := range append(wrongOrders, 0, 1, 4, api.Orders) {
			notGiven(t, p, base, k)
		}
	}
}

func TestGiveRefusesAnotherOrderOrBase(t *testing.T) {
	p := made(t, 16)
	takenAt(t, p, 1, 0)
	takenAt(t, p, 0, 2)
	takenAt(t, p, 0, 3) // as a block of two, 2 was never taken
	takenAt(t, p, 2, 4)
	for _, k := range append(wrongOrders, 0, 2, 3, 4) {
		notGiven(t, p, 0, k)
	}
	for _, b := range [][2]int{{1, 0}, {1, 1}, {2, 1}, {4, 1}, {4, 0}, {5, 2}, {6, 1}, {7, 0}, {8, 3}, {-4, 2}, {4, 3}} {
		notGiven(t, p, b[0], b[1])
	}
	given(t, p, at(4, 2)) // what was refused has kept each as it was taken
	given(t, p, at(0, 1))
	given(t, p, at(3, 0))
	given(t, p, at(2, 0))
	is(t, "all is given back", p, 16, at(0, 4))
}

func TestGiveRefusesWhatWasGivenBack(t *testing.T) {
	p := made(t, 8)
	takenAt(t, p, 2, 0)
	given(t, p, at(0, 2))
	notGiven(t, p, 0, 2)
	takenAt(t, p, 0, 0) // the same base, as another block
	notGiven(t, p, 0, 2)
	given(t, p, at(0, 0))
	notGiven(t, p, 0, 0)
	takenAt(t, p, 2, 0) // and again as the first one
	given(t, p, at(0, 2))
	notGiven(t, p, 0, 2)
	is(t, "all is given back", p, 8, at(0, 3))
}

func TestFreeIsTheCallers(t *testing.T) {
	p := made(t, 21)
	want := p.Free()
	got := p.Free()
	for i := range got {
		got[i] = at(-1, -1)
	}
	_ = append(got[:0], at(-2, -2))
	is(t, "its list is written into", p, 21, want...)
	takenAt(t, p, 2, 16)
	if !slices.Equal(want, []api.Block{at(0, 4), at(16, 2), at(20, 0)}) {
		t.Errorf("a list from before an Alloc is %v now", want)
	}
}

func TestPoolsShareNothing(t *testing.T) {
	a, b := made(t, 8), made(t, 8)
	takenAt(t, a, 0, 0)
	is(t, "the other pool", b, 8, at(0, 3))
	notGiven(t, b, 0, 0)
}

// die has numbers that look drawn, the same each time.
type die uint64

func (d *die) below(n int) int {
	*d = *d*6364136223846793005 + 1442695040888963407
	return int(uint64(*d>>33) % uint64(n))
}

// Long walks, held against frames that are merely free or not: no frame is lost, and none is twice.
func TestWalksAreAsTheDocumentSays(t *testing.T) {
	d := die(1)
	for walk := range 150 {
		n := 1 + d.below(api.MaxFrames)
		p, frames := made(t, n), allFree(n)
		var held []api.Block
		for step := range 120 {
			if d.below(5) < 3 {
				held = walkAlloc(t, p, frames, held, d.below(api.Orders+1)*d.below(3)/2)
			} else if len(held) > 0 {
				i := d.below(len(held))
				given(t, p, held[i])
				frames.mark(held[i], true)
				held = slices.Delete(held, i, i+1)
			}
			is(t, "on a walk", p, frames.left(), frames.blocks()...)
			if t.Failed() {
				t.Fatalf("walk %d, step %d, of %d frames", walk, step, n)
			}
		}
		for _, b := range held {
			given(t, p, b)
		}
		is(t, "all is given back", p, n, allFree(n).blocks()...)
	}
}

func walkAlloc(t *testing.T, p *buddy.Pool, frames frames, held []api.Block, order int) []api.Block {
	t.Helper()
	want := frames.next(order)
	if want < 0 {
		notTaken(t, p, order, api.ErrFull)
		return held
	}
	takenAt(t, p, order, want)
	b := at(want, order)
	frames.mark(b, false)
	return append(held, b)
}

func TestWhatNewRefusedHasNoFrames(t *testing.T) {
	p, _ := buddy.New(0)
	is(t, "no pool", p, 0)
	notTaken(t, p, 0, api.ErrFull)
	notTaken(t, p, api.Orders+1, api.ErrArg)
	notGiven(t, p, 0, 0)
}
