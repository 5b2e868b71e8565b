package kernel_test

import (
	"testing"

	"almshouse/api"
)

// 11.3: pages and words.

func TestPagesAndWords(t *testing.T) {
	b := newBox(t, 3)
	b.maps(1, 62, 2)
	b.loads(1, 63, 7, 0)
	b.has(1, 2, 0, 0)
	b.stores(1, 63, 7, -1<<63)
	b.loads(1, 63, 7, -1<<63)
	b.loads(1, 63, 6, 0)
	b.loads(1, 62, 7, 0)
	done(t, "Protect", b.Protect(1, 62, 2, api.Reads))
	b.storesWith(1, 63, 7, 1, api.ErrFalse)
	b.loads(1, 63, 7, -1<<63)
	done(t, "Protect", b.Protect(1, 63, 1, api.Writes))
	_, err := b.Load(1, 63, 7)
	wrong(t, "Load", err, api.ErrFalse)
	b.stores(1, 63, 7, 5)
	done(t, "Protect", b.Protect(1, 63, 1, both))
	b.loads(1, 63, 7, 5)
	b.unmaps(1, 63, 1)
	_, err = b.Load(1, 63, 7)
	wrong(t, "Load", err, api.ErrMissing)
	b.maps(1, 63, 1)
	b.loads(1, 63, 7, 0) // nothing of it came back
	b.stores(1, 63, 0, 1)
	b.loads(1, 63, 7, 0)
	b.counts("one frame", 2, 0, 1)
}

// Two have the same words, until one stores.
func TestWordsBehindAFork(t *testing.T) {
	b := newBox(t, 3)
	b.grows(1, 0, 1)
	b.stores(1, 0, 7, 7)
	b.forks(1, 2)
	b.forks(2, 3)
	b.counts("one frame is shared", 2, 0, 1)
	b.stores(2, 0, 0, 20)
	b.stores(3, 0, 0, 30)
	b.counts("each has its own", 0, 0, 1)
	b.stores(1, 0, 0, 10) // it has it alone now
	for pid := 1; pid <= 3; pid++ {
		b.loads(pid, 0, 0, int64(pid*10))
		b.loads(pid, 0, 7, 7)
		b.has(pid, 1, 1, 0)
	}
	done(t, "Protect", b.Protect(2, 0, 1, api.Reads))
	b.stores(3, 0, 1, 31)
	b.unmaps(1, 0, 1)
	b.loads(2, 0, 0, 20)
	b.counts("one came back", 1, 0, 1)
}

func TestTheLimitOfPages(t *testing.T) {
	b := newBox(t, 2)
	b.limits(1, api.Pages, 5)
	b.maps(1, 0, 2)
	wrong(t, "Map of one too many", b.Map(1, 10, 4, both), api.ErrLimit)
	b.has(1, 2, 0, 0)
	b.maps(1, 10, 3) // just so
	b.has(1, 5, 0, 0)
	wrong(t, "Map of one more", b.Map(1, 20, 1, both), api.ErrLimit)
	wrong(t, "Map of one that is there", b.Map(1, 12, 1, both), api.ErrTwice)
	wrong(t, "Map of one that is there, and too many", b.Map(1, 12, 5, both), api.ErrTwice)
	wrong(t, "Map without a use, and of too many", b.Map(1, 20, 5, 0), api.ErrArg)
	wrong(t, "Map of more than there can be", b.Map(1, 20, 60, both), api.ErrRange)
	b.unmaps(1, 11, 1)
	b.maps(1, 20, 1)
	b.unmaps(1, 0, 2)
	wrong(t, "Map of one too many", b.Map(1, 30, 3, both), api.ErrLimit)
	b.maps(1, 30, 2)
	b.has(1, 5, 0, 0)
	wrong(t, "Unmap", b.Unmap(1, 30, 3), api.ErrMissing) // what is refused is not taken back
	wrong(t, "Map of one more", b.Map(1, 40, 1, both), api.ErrLimit)
}

// A refused Map leaves pages that are there as they are, with their words and uses.
func TestARefusedMapLeavesWhatIsThere(t *testing.T) {
	b := newBox(t, 4)
	b.grows(1, 5, 2)
	b.limits(1, api.Pages, 3)
	wrong(t, "Map", b.Map(1, 6, 3, api.Reads), api.ErrTwice)
	wrong(t, "Map", b.Map(1, 7, 2, api.Reads), api.ErrLimit)
	wrong(t, "Map", b.Map(1, 3, 2, api.Reads), api.ErrLimit)
	b.has(1, 2, 2, 0)
	b.loads(1, 5, 0, 1)
	b.loads(1, 6, 0, 2)
	b.stores(1, 6, 0, 3)
	b.maps(1, 7, 1)
}

// 11.3: who goes when there is no memory.

func TestTheGreatestGoes(t *testing.T) {
	b := newBox(t, 6)
	b.forks(1, 2)
	b.forks(1, 3)
	b.forks(1, 4)
	b.grows(2, 0, 1)
	b.grows(3, 0, 3)
	b.grows(4, 0, 2)
	b.opens(3, "/held", both, 0)
	done(t, "Unlink", b.Unlink(1, "/held"))
	b.forks(3, 5)
	done(t, "Exec", b.Exec(5))
	b.closes(5, 0)
	b.maps(1, 0, 9)
	b.counts("none is left", 0, 1, 2)
	b.stores(1, 0, 0, 1, 3)
	b.counts("it let all go", 2, 0, 1)
	b.run([]int{1, 2, 4, 5}, []int{3})
	b.loads(1, 0, 0, 1)
	b.waits(1, 3, 108)
	b.stores(1, 1, 0, 1)
	b.stores(1, 2, 0, 1)
	b.stores(1, 3, 0, 1, 4)
	b.waits(1, 4, 108)
	b.has(1, 9, 4, 0)
	b.exits(5, 9) // it was 3's, and is 1's now
	b.waits(1, 5, 9)
}

func TestOfTwoTheGreaterNumberGoes(t *testing.T) {
	b := newBox(t, 4)
	b.forks(1, 2)
	b.forks(1, 3)
	b.grows(3, 0, 2)
	b.grows(2, 0, 2)
	b.maps(1, 0, 3)
	b.stores(1, 0, 0, 1, 3)
	b.stores(1, 1, 0, 1)
	b.stores(1, 2, 0, 1, 2)
	b.counts("one is left", 1, 0, 1)
}

// Those that have nothing alone go one after the other, until a frame is free.
func TestSeveralGo(t *testing.T) {
	b := newBox(t, 3)
	b.forks(1, 2)
	b.grows(2, 0, 3)
	b.forks(2, 3)
	b.forks(2, 4)
	b.forks(3, 5)
	b.unmaps(3, 2, 1)
	b.maps(1, 0, 1)
	b.stores(1, 0, 3, 33, 5, 4, 2) // 3 weighs less
	b.run([]int{1, 3}, []int{2, 4, 5})
	b.counts("one of 2's was its alone", 0, 0, 1)
	b.loads(1, 0, 3, 33)
	b.loads(3, 1, 0, 2)
	b.waits(1, 2, 108)
	b.waits(1, 4, 108)
	b.waitsFor(1, api.ErrState)
	b.waits(3, 5, 108)
}

// Who goes may leave a frame to the one that asks alone: then it needs none.
func TestAFrameThatIsSharedNoMore(t *testing.T) {
	b := newBox(t, 1)
	b.grows(1, 0, 1)
	b.forks(1, 2)
	b.stores(1, 0, 1, 5, 2)
	b.loads(1, 0, 0, 1)
	b.loads(1, 0, 1, 5)
	b.counts("it has it alone", 0, 0, 1)
	b.stores(1, 0, 2, 6)
}

func TestWhoAsksGoesItself(t *testing.T) {
	b := newBox(t, 3)
	b.forks(1, 2)
	b.forks(1, 3)
	b.grows(2, 0, 1)
	b.grows(3, 0, 2)
	b.opens(3, "/f", both, 0)
	b.maps(3, 9, 1)
	b.storesWith(3, 9, 0, 1, api.ErrOrder, 3)
	b.run([]int{1, 2}, []int{3})
	b.counts("it let all go", 2, 0, 2)
	b.storesWith(3, 9, 0, 1, api.ErrMissing)
	b.waits(1, 3, 108)
}

// Others go ahead of it, and stay gone.
func TestWhoAsksGoesBehindOthers(t *testing.T) {
	b := newBox(t, 2)
	b.forks(1, 2)
	b.grows(2, 0, 2)
	b.maps(2, 9, 1)
	b.forks(2, 3)
	b.forks(2, 4)
	b.adjusts(3, 1)
	b.storesWith(2, 9, 0, 1, api.ErrOrder, 3, 4, 2)
	b.run([]int{1}, []int{2, 3, 4})
	b.counts("all went", 2, 0, 1)
	for pid := 2; pid <= 4; pid++ {
		b.waits(1, pid, 108)
	}
}

func TestNobodyIsLeft(t *testing.T) {
	b := newBox(t, 3)
	b.grows(1, 0, 3)
	b.maps(1, 9, 1)
	b.storesWith(1, 9, 0, 1, api.ErrFull) // there is nobody else
	b.forks(1, 2)
	b.unmaps(2, 0, 3)
	b.storesWith(1, 9, 0, 1, api.ErrFull) // who has nothing does not go
	b.storesWith(2, 9, 0, 1, api.ErrFull)
	b.run([]int{1, 2}, nil)
	b.has(1, 4, 3, 0)
	b.has(2, 1, 0, 0)
	b.loads(1, 9, 0, 0)
	b.forks(1, 3)
	b.forks(1, 4)
	b.adjusts(4, -100)
	b.storesWith(1, 9, 0, 1, api.ErrFull, 3) // what it had 1 has, too; it stays gone
	b.run([]int{1, 2, 4}, []int{3})
	b.waits(1, 3, 108)
}

// An adjustment of -100 keeps one from going, also the one that asks.
func TestAdjustmentsTellWhoGoes(t *testing.T) {
	b := newBox(t, 7)
	for pid := 2; pid <= 4; pid++ {
		b.forks(1, pid)
	}
	b.grows(2, 0, 4)
	b.grows(3, 0, 2)
	b.grows(4, 0, 1)
	b.adjusts(2, -100)
	b.adjusts(4, 100)
	b.maps(2, 9, 9)
	b.stores(2, 9, 0, 1, 4) // as heavy as 3, and of a greater number
	b.adjusts(3, -99)
	b.stores(2, 10, 0, 1, 3)
	b.stores(2, 11, 0, 1)
	b.storesWith(2, 12, 0, 1, api.ErrFull)
	b.has(2, 13, 7, 0)
	b.adjusts(2, -99)
	b.storesWith(2, 12, 0, 1, api.ErrOrder, 2)
	b.counts("all are gone", 7, 0, 1)
}

// 1 never goes, whatever it has, and whatever its adjustment is.
func TestTheFirstNeverGoes(t *testing.T) {
	b := newBox(t, 5)
	b.grows(1, 0, 4)
	b.adjusts(1, 100)
	b.forks(1, 2)
	done(t, "Exec", b.Exec(2))
	b.adjusts(2, -50)
	b.grows(2, 0, 1)
	b.maps(2, 1, 1)
	b.storesWith(2, 1, 0, 1, api.ErrOrder, 2)
	b.run([]int{1}, []int{2})
	b.has(1, 4, 4, 0)
	b.counts("one is left", 1, 0, 1)
}

// Those that are dead do not go once more, though they have not been waited for.
func TestTheDeadDoNotGo(t *testing.T) {
	b := newBox(t, 2)
	b.forks(1, 2)
	b.forks(1, 3)
	b.grows(3, 0, 2)
	b.exits(3, 0)
	b.grows(2, 0, 1)
	b.grows(1, 0, 1)
	b.maps(1, 1, 1)
	b.stores(1, 1, 0, 1, 2)
	b.waits(1, 2, 108)
	b.waits(1, 3, 0)
}

// A page without a frame weighs nothing.
func TestPagesWithoutFramesWeighNothing(t *testing.T) {
	b := newBox(t, 3)
	b.forks(1, 2)
	b.forks(1, 3)
	b.maps(3, 10, 50)
	b.grows(3, 0, 1)
	b.grows(2, 0, 2)
	b.maps(1, 0, 1)
	b.stores(1, 0, 0, 1, 2)
	b.run([]int{1, 3}, []int{2})
}
