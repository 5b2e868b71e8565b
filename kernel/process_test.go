package kernel_test

import (
	"fmt"
	"math"
	"testing"

	"almshouse/api"
	"almshouse/kernel"
)

// 11.2: processes.

func TestForkIsTheSameOnceMore(t *testing.T) {
	b := newBox(t, 4)
	b.grows(1, 0, 2)
	done(t, "Map", b.Map(1, 9, 1, api.Reads))
	b.opens(1, "/f", both, 0)
	b.writes(1, 0, "abcdef", 6)
	b.seeks(1, 0, 2)
	b.forks(1, 2)
	b.has(2, 3, 2, 1)
	b.counts("forked", 2, 1, 2)
	b.loads(2, 1, 0, 2)
	b.storesWith(2, 9, 0, 1, api.ErrFalse)
	b.stores(2, 1, 0, 20)
	b.loads(1, 1, 0, 2)
	b.stores(1, 0, 0, 10)
	b.loads(2, 0, 0, 1)
	b.counts("one frame each", 0, 1, 2)
	b.reads(2, 0, 1, "c")
	b.reads(1, 0, 1, "d") // the place is one
	b.maps(2, 20, 4)
	b.has(1, 3, 2, 1)
	b.has(2, 7, 2, 1)
	b.opens(2, "/g", both, 1)
	b.has(1, 3, 2, 1)
	b.numbers(1, 0)
	b.numbers(2, 0, 1)
}

// The ledger and the adjustment come along, and are one's own from then on.
func TestForkHasTheSameLimits(t *testing.T) {
	b := newBox(t, 9)
	b.maps(1, 0, 2)
	b.opens(1, "/f", both, 0)
	b.limits(1, api.Pages, 3)
	b.limits(1, api.Fds, 2)
	b.limits(1, api.Bytes, 5)
	b.forks(1, 2)
	wrong(t, "Map", b.Map(2, 5, 2, both), api.ErrLimit)
	b.maps(2, 5, 1)
	wrong(t, "Map", b.Map(2, 6, 1, both), api.ErrLimit)
	b.dups(2, 0, 1)
	_, err := b.Dup(2, 0)
	wrong(t, "Dup", err, api.ErrLimit)
	b.refusesWrite(2, 0, "123456", api.ErrLimit)
	b.maps(1, 9, 1) // what the other one has does not count
	b.dups(1, 0, 1)
	b.limits(2, api.Pages, 10)
	b.limits(2, api.Fds, 8)
	b.limits(2, api.Bytes, 100)
	wrong(t, "Map", b.Map(1, 6, 1, both), api.ErrLimit)
	_, err = b.Dup(1, 0)
	wrong(t, "Dup", err, api.ErrLimit)
	b.refusesWrite(1, 0, "123456", api.ErrLimit)
	b.maps(2, 6, 7)
	wrong(t, "Map", b.Map(2, 20, 1, both), api.ErrLimit)
	b.limits(1, api.Pages, 0)
	b.unmaps(2, 6, 1)
	b.maps(2, 20, 1)
	b.writes(2, 0, "123456", 6)
}

func TestForkHasTheSameAdjustment(t *testing.T) {
	b := newBox(t, 6)
	b.adjusts(1, -100)
	b.forks(1, 2)
	b.adjusts(1, 0)
	b.forks(1, 3)
	b.grows(2, 0, 3)
	b.grows(3, 0, 2)
	b.grows(1, 0, 1)
	b.maps(1, 1, 9)
	b.stores(1, 1, 0, 1, 3) // 2 weighs nothing, though it has more
	b.stores(1, 2, 0, 1)
	b.storesWith(1, 3, 0, 1, api.ErrFull)
	b.run([]int{1, 2}, []int{3})
	b.adjusts(2, -99)
	b.forks(2, 4)
	b.adjusts(2, -100)
	b.storesWith(1, 3, 0, 1, api.ErrFull, 4) // 4 weighs a little; all that it has 2 has, too, and that weighs nothing
}

func TestAsManyProcessesAsThereMayBe(t *testing.T) {
	build := func() *kernel.Kernel {
		b := &box{Kernel: rich(t), t: t}
		for pid := 7; pid <= api.MaxProcs; pid++ {
			b.forks(1+pid%4, pid)
		}
		b.exits(20, 1) // one that is dead has its number yet
		return b.Kernel
	}
	w := newTwin(build)
	for pid, want := range map[int]api.Errno{1: api.ErrFull, 2: api.ErrFull, 24: api.ErrFull, 20: api.ErrMissing} {
		w.refuses(t, fmt.Sprint("Fork of ", pid), want, func(k *kernel.Kernel) (bool, error) {
			child, err := k.Fork(pid)
			return child == 0, err
		})
	}
	b := &box{Kernel: build(), t: t}
	if len(b.Pids()) != api.MaxProcs {
		t.Fatalf("%d processes: want %d", len(b.Pids()), api.MaxProcs)
	}
	b.waits(1, 20, 1)
	b.forks(24, 20)
	_, err := b.Fork(1)
	wrong(t, "Fork", err, api.ErrFull)
	b.waits(2, deadPid, 55)
	b.forks(20, deadPid)
}

func TestExitLetsAllGo(t *testing.T) {
	b := newBox(t, 5)
	b.forks(1, 2)
	b.grows(2, 0, 3)
	b.opens(2, "/f", both, 0)
	b.pipes(2, 1, 2)
	b.counts("it has much", 2, 3, 2)
	b.exits(2, -5)
	b.counts("it ended", 5, 0, 2)
	b.run([]int{1}, []int{2})
	b.has(1, 0, 0, 0)
	wrong(t, "Exit of one that is dead", b.Exit(2, 6), api.ErrMissing)
	b.waits(1, 2, -5)
	b.waitsFor(1, api.ErrNone)
	b.forks(1, 2) // the number is free, and has nothing of what was there
	b.has(2, 0, 0, 0)
	b.run([]int{1, 2}, nil)
}

// Numbers and pages that others share stay theirs.
func TestExitOfOneThatShares(t *testing.T) {
	b := newBox(t, 4)
	b.grows(1, 0, 2)
	b.opens(1, "/f", both, 0)
	b.writes(1, 0, "text", 4)
	b.pipes(1, 1, 2)
	b.forks(1, 2)
	b.stores(2, 0, 0, 50)
	b.pipes(2, 3, 4)
	b.counts("shared", 1, 5, 2)
	b.exits(2, 0)
	b.counts("one ended", 2, 3, 2)
	b.has(1, 2, 2, 3)
	b.loads(1, 0, 0, 1)
	b.loads(1, 1, 0, 2)
	b.stores(1, 1, 1, 5) // in the frame that was shared
	b.counts("it is one's own", 2, 3, 2)
	b.seeks(1, 0, 0)
	b.reads(1, 0, whole, "text")
	b.writes(1, 2, "bytes", 5)
	b.reads(1, 1, whole, "bytes")
}

func TestCodesAreAny(t *testing.T) {
	b := newBox(t, 1)
	for _, code := range []int{0, 1, -1, 256, 1 << 32, math.MinInt, math.MaxInt} {
		b.forks(1, 2)
		b.exits(2, code)
		b.waits(1, 2, code)
	}
}

func TestOwnOnesAreHandedOver(t *testing.T) {
	b := newBox(t, 3)
	b.forks(1, 2)
	b.forks(2, 3)
	b.forks(2, 4)
	b.grows(3, 0, 1)
	b.exits(4, 44)
	b.waitsFor(3, api.ErrNone)
	b.waitsFor(1, api.ErrState)
	b.exits(2, 22)
	b.has(3, 1, 1, 0)
	b.waits(1, 2, 22)
	b.waits(1, 4, 44)
	b.waitsFor(1, api.ErrState)
	b.exits(3, 33)
	b.waits(1, 3, 33)
	b.waitsFor(1, api.ErrNone)
}

func TestExec(t *testing.T) {
	b := newBox(t, 4)
	b.grows(1, 0, 2)
	b.opens(1, "/f", both, 0)
	b.opens(1, "/g", both, 1)
	b.pipes(1, 2, 3)
	done(t, "Mark", b.Mark(1, 1, true))
	done(t, "Mark", b.Mark(1, 3, true))
	done(t, "Mark", b.Mark(1, 0, true))
	done(t, "Mark", b.Mark(1, 0, false))
	b.forks(1, 2)
	b.limits(2, api.Pages, 2)
	b.limits(2, api.Fds, 4)
	done(t, "Exec", b.Exec(2))
	b.has(2, 0, 0, 2)
	b.numbers(2, 0, 2)
	b.has(1, 2, 2, 4)
	b.counts("the other one has them", 2, 4, 3)
	wrong(t, "Map", b.Map(2, 0, 3, both), api.ErrLimit) // what it may have is as before
	b.maps(2, 0, 2)                                     // and what it had counts no more
	b.dups(2, 0, 1)
	b.dups(2, 0, 3)
	_, err := b.Dup(2, 0)
	wrong(t, "Dup", err, api.ErrLimit)
	b.loads(2, 0, 0, 0)
	done(t, "Exec", b.Exec(1))
	b.numbers(1, 0, 2)
	b.counts("nobody has them", 4, 2, 3)
	b.reads(2, 2, 5, "") // no Into is open any more: a number that was marked is not, when it is taken again
	done(t, "Exec", b.Exec(2))
	b.has(2, 0, 0, 4)
}

// Exec changes no signal, no adjustment, and nobody else.
func TestExecLeavesTheRest(t *testing.T) {
	b := newBox(t, 3)
	b.forks(1, 2)
	b.forks(2, 3)
	b.adjusts(2, -100)
	done(t, "Ignore", b.Ignore(2, 4, true))
	b.kills(1, 2, 4, 6)
	done(t, "Exec", b.Exec(2))
	b.grows(2, 0, 2)
	b.grows(3, 0, 1)
	b.maps(1, 0, 2)
	b.stores(1, 0, 0, 1, 3)
	b.storesWith(1, 1, 0, 1, api.ErrFull)
	b.waits(2, 3, 108)
	b.ends(2, true)
	b.waits(1, 2, 106)
}

// 11.2: signals.

func TestSignalsEnd(t *testing.T) {
	for sig := 1; sig <= api.Signals; sig++ {
		b := newBox(t, 2)
		b.grows(1, 0, 1)
		b.forks(1, 2)
		b.stores(2, 0, 0, 5)
		b.pipes(2, 0, 1)
		b.ends(2, false)
		b.kills(1, 2, sig)
		b.run([]int{1, 2}, nil) // it waits yet
		b.counts("it waits", 0, 2, 1)
		b.ends(1, false)
		b.ends(2, true)
		b.run([]int{1}, []int{2})
		b.counts("it ended", 1, 0, 1)
		_, err := b.Signal(2)
		wrong(t, "Signal of one that is dead", err, api.ErrMissing)
		b.waits(1, 2, 100+sig)
	}
}

func TestTheLeastSignalEnds(t *testing.T) {
	b := newBox(t, 1)
	b.forks(1, 2)
	b.forks(1, 3)
	b.kills(2, 3, 8, 5, 3, 7)
	b.kills(3, 2, 6)
	b.kills(3, 3, 4)
	done(t, "Ignore", b.Ignore(3, 3, true))
	b.ends(3, true)
	b.waits(1, 3, 104)
	b.ends(2, true)
	b.waits(1, 2, 106)
	b.forks(1, 2) // no signal waits for who has the number now
	b.forks(1, 3)
	b.ends(2, false)
	b.ends(3, false)
}

func TestNoSignalEndsTheFirst(t *testing.T) {
	b := newBox(t, 1)
	b.grows(1, 0, 1)
	b.forks(1, 2)
	b.kills(1, 1, 1, 2, 3, 4, 5, 6, 7, 8)
	b.kills(2, 1, 8, 3)
	b.ends(1, false)
	b.run([]int{1, 2}, nil)
	b.has(1, 1, 1, 0)
	b.ends(1, false)
}

func TestIgnoredSignals(t *testing.T) {
	b := newBox(t, 1)
	b.forks(1, 2)
	for sig := 1; sig < api.Signals; sig++ {
		done(t, "Ignore", b.Ignore(2, sig, true))
		b.kills(1, 2, sig)
	}
	b.ends(2, false)
	b.forks(2, 3) // it ignores what the other one ignores
	b.kills(1, 3, 7)
	b.ends(3, false)
	done(t, "Ignore", b.Ignore(2, 7, false))
	b.ends(2, false) // what came while it was ignored does not wait
	b.kills(2, 2, 7)
	b.ends(2, true)
	b.waits(1, 2, 107)
	b.kills(1, 3, 7, 8)
	b.ends(3, true)
	b.waits(1, 3, 108)
	b.forks(1, 2)
	b.kills(1, 2, 4)
	b.forks(2, 3) // what waits for one does not wait for its fork
	b.ends(3, false)
	done(t, "Ignore", b.Ignore(2, 4, true)) // it waits no more
	done(t, "Ignore", b.Ignore(2, 4, false))
	b.ends(2, false)
}

// 11.2: limits. What there is stays, and may become less; nothing may be added.
func TestLimitsThatAreLowered(t *testing.T) {
	b := newBox(t, 4)
	b.grows(1, 0, 3)
	b.opens(1, "/f", both, 0)
	b.dups(1, 0, 1)
	b.dups(1, 0, 2)
	b.writes(1, 0, "0123456789", 10)
	b.limits(1, api.Pages, 1)
	b.limits(1, api.Fds, 1)
	b.limits(1, api.Bytes, 5)
	b.has(1, 3, 3, 3)
	b.loads(1, 2, 0, 3)
	b.stores(1, 2, 0, 33)
	done(t, "Protect", b.Protect(1, 0, 3, api.Reads))
	wrong(t, "Map", b.Map(1, 9, 1, both), api.ErrLimit)
	_, err := b.Dup(1, 0)
	wrong(t, "Dup", err, api.ErrLimit)
	wrong(t, "Dup2 onto a free one", b.Dup2(1, 0, 5), api.ErrLimit)
	done(t, "Dup2 onto one that is open", b.Dup2(1, 0, 2))
	done(t, "Dup2 onto itself", b.Dup2(1, 2, 2))
	b.seeks(1, 0, 8)
	b.refusesWrite(1, 0, "x", api.ErrLimit)
	b.writes(1, 0, "", 0)
	b.reads(1, 1, whole, "89")
	b.seeks(1, 0, 3)
	b.writes(1, 0, "xy", 2)
	b.forks(1, 2)
	b.has(2, 3, 3, 3) // a fork has more than it may, too
	wrong(t, "Map", b.Map(2, 9, 1, both), api.ErrLimit)
	b.unmaps(1, 0, 2)
	wrong(t, "Map", b.Map(1, 0, 1, both), api.ErrLimit)
	b.unmaps(1, 2, 1)
	b.maps(1, 0, 1)
	b.closes(1, 0, 1)
	_, err = b.Dup(1, 2)
	wrong(t, "Dup", err, api.ErrLimit)
	b.closes(1, 2)
	b.opens(1, "/f", api.Reads, 0)
	b.reads(1, 0, whole, "012xy56789")
	b.has(1, 1, 0, 1)
}

func TestLimitsOfNothing(t *testing.T) {
	b := newBox(t, 4)
	for kind := range api.Limits {
		b.limits(1, kind, 0)
	}
	for _, n := range []int{1, 2, api.MaxPages} {
		wrong(t, "Map", b.Map(1, 0, n, both), api.ErrLimit)
	}
	_, err := b.File(1, "/f", both, true)
	wrong(t, "File", err, api.ErrLimit)
	_, _, err = b.Pipe(1)
	wrong(t, "Pipe", err, api.ErrLimit)
	b.counts("nothing", 4, 0, 1)
	b.limits(1, api.Fds, 3)
	b.opens(1, "/f", both, 0)
	b.refusesWrite(1, 0, "x", api.ErrLimit)
	b.writes(1, 0, "", 0)
	b.pipes(1, 1, 2)
	b.writes(1, 2, "a pipe has no such limit", api.PipeBytes)
	done(t, "Mkdir", b.Mkdir(1, "/d")) // nor have directories
	b.forks(1, 2)
	b.limits(1, api.Pages, 1_000_000)
	b.maps(1, 0, api.MaxPages)
	wrong(t, "Map", b.Map(2, 0, 1, both), api.ErrLimit)
}

func TestAdjustmentsThatMayBe(t *testing.T) {
	for _, n := range []int{-100, -99, -1, 0, 1, 99, 100} {
		b := newBox(t, 1)
		b.forks(1, 2)
		b.adjusts(1, n)
		b.adjusts(2, n)
		b.grows(2, 0, 1)
		b.maps(1, 0, 1)
		if n == -100 {
			b.storesWith(1, 0, 0, 1, api.ErrFull)
			continue
		}
		b.stores(1, 0, 0, 1, 2)
	}
}
