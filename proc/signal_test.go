package proc_test

import (
	"fmt"
	"slices"
	"testing"

	"almshouse/api"
	"almshouse/proc"
)

// two has 1, and 2 that is 1's.
func two(t *testing.T) *proc.Table {
	t.Helper()
	x := proc.New()
	forks(t, x, 1, 2)
	return x
}

func TestEachSignalComesOnce(t *testing.T) {
	for pid := 1; pid <= 2; pid++ {
		for sig := 1; sig <= api.Signals; sig++ {
			x := two(t)
			kills(t, x, pid, sig)
			takes(t, x, 3-pid)
			takes(t, x, pid, sig)
			kills(t, x, pid, sig)
			takes(t, x, pid, sig)
			has(t, "behind signals", x, runs(1, 0), runs(2, 1)) // none of them ends a process here
		}
	}
}

func TestASignalThatWaitsAndIsSentAgain(t *testing.T) {
	for sig := 1; sig <= api.Signals; sig++ {
		for times := 1; times <= 4; times++ {
			x := two(t)
			for range times {
				kills(t, x, 2, sig)
			}
			takes(t, x, 2, sig)
		}
	}
	x := two(t)
	kills(t, x, 2, 3, 5, 3, 5, 5, 3)
	takes(t, x, 2, 3, 5)
}

// sets are all sets of signals, each as a list that rises.
func sets() [][]int {
	l := [][]int{nil}
	for sig := 1; sig <= api.Signals; sig++ {
		for _, s := range slices.Clone(l) {
			l = append(l, append(slices.Clone(s), sig))
		}
	}
	return l
}

func TestTheLeastSignalComesFirst(t *testing.T) {
	for _, set := range sets() {
		x := two(t)
		kills(t, x, 2, set...)
		takes(t, x, 2, set...)
		down := slices.Clone(set)
		slices.Reverse(down)
		kills(t, x, 2, down...)
		takes(t, x, 2, set...)
	}
}

func TestSignalsThatComeMeanwhile(t *testing.T) {
	x := two(t)
	kills(t, x, 2, 4, 7)
	for i, sig := range []int{6, 2, 1, last, 2, 5} {
		want := []int{4, 2, 1, 6, 2, 5}[i]
		kills(t, x, 2, sig)
		if got := x.Take(2); got != want {
			t.Errorf("Take, behind Kill(2, %d): %d: want %d", sig, got, want)
		}
	}
	takes(t, x, 2, 7, last)
}

func TestSignalsAreOfOneProcess(t *testing.T) {
	x := proc.New()
	for pid := 2; pid <= api.MaxProcs; pid++ {
		forks(t, x, pid/2, pid)
	}
	for pid := 1; pid <= api.MaxProcs; pid++ {
		kills(t, x, pid, 1+pid%api.Signals, 1+pid*3%api.Signals)
		ignores(t, x, pid, true, 1+pid%(api.Signals-1))
	}
	for pid := api.MaxProcs; pid >= 1; pid-- {
		var want []int
		no := 1 + pid%(api.Signals-1)
		for sig := 1; sig <= api.Signals; sig++ {
			if sig != no && (sig == 1+pid%api.Signals || sig == 1+pid*3%api.Signals) {
				want = append(want, sig)
			}
		}
		takes(t, x, pid, want...)
		ignoresJust(t, x, pid, no)
	}
}

func TestSignalsThatAreIgnored(t *testing.T) {
	for _, set := range sets() {
		if slices.Contains(set, last) {
			continue
		}
		x := two(t)
		ignores(t, x, 2, true, set...)
		ignoresJust(t, x, 2, set...)
		ignoresJust(t, x, 1)
		ignores(t, x, 2, true, set...) // once more
		ignoresJust(t, x, 2, set...)
		for i, sig := range set {
			ignores(t, x, 2, false, sig)
			ignoresJust(t, x, 2, set[i+1:]...)
			kills(t, x, 2, sig)
			takes(t, x, 2, sig)
		}
		ignores(t, x, 2, false, set...) // none of them is
		ignoresJust(t, x, 2)
	}
}

func TestASignalThatIsIgnoredDoesNotComeLater(t *testing.T) {
	for sig := 1; sig < last; sig++ {
		x := two(t)
		ignores(t, x, 2, true, sig)
		kills(t, x, 2, sig, sig)
		ignores(t, x, 2, false, sig)
		takes(t, x, 2)
		kills(t, x, 2, sig)
		takes(t, x, 2, sig)
	}
}

func TestASignalThatWaitsAndIsIgnoredThen(t *testing.T) {
	for sig := 1; sig < last; sig++ {
		x := two(t)
		kills(t, x, 1, sig)
		kills(t, x, 2, sig)
		ignores(t, x, 2, true, sig)
		takes(t, x, 2)
		kills(t, x, 1, sig)
		takes(t, x, 1, sig) // what waits for another one stays

		kills(t, x, 1, sig)
		ignores(t, x, 1, true, sig)
		ignores(t, x, 1, false, sig)
		takes(t, x, 1)
		ignoresJust(t, x, 1)
	}
}

// The other signals wait as before, whichever is ignored, or not.
func TestIgnoreLeavesTheOthers(t *testing.T) {
	for _, set := range sets() {
		for sig := 1; sig < last; sig++ {
			x := two(t)
			kills(t, x, 2, set...)
			ignores(t, x, 2, true, sig)
			want := slices.Clone(set)
			want = slices.DeleteFunc(want, func(s int) bool { return s == sig })
			takes(t, x, 2, want...)
			ignoresJust(t, x, 2, sig)
		}
	}
}

// A signal that is not ignored is not forgotten when this is told once more.
func TestASignalThatWaitsAndIsNotIgnored(t *testing.T) {
	for _, set := range sets() {
		x := two(t)
		kills(t, x, 2, set...)
		for sig := 1; sig < last; sig++ {
			ignores(t, x, 2, false, sig)
		}
		takes(t, x, 2, set...)
		ignoresJust(t, x, 2)
	}
}

func TestTheLastSignalIsNeverIgnored(t *testing.T) {
	for _, made := range []func(*testing.T) *proc.Table{some, full, two} {
		x := made(t)
		for _, pid := range x.Pids() {
			if x.State(pid) == api.Runs {
				changesNothing(t, fmt.Sprint("process ", pid), made, func(x *proc.Table) { refusesIgnore(t, x, pid, last, api.ErrState) })
			}
		}
	}
	x := two(t)
	for sig := 1; sig < last; sig++ {
		ignores(t, x, 2, true, sig)
	}
	kills(t, x, 2, last)
	refusesIgnore(t, x, 2, last, api.ErrState)
	takes(t, x, 2, last)
	forks(t, x, 2, 3)
	kills(t, x, 3, 1, last, 2)
	takes(t, x, 3, last)
}

func TestWhoIsForkedIgnoresTheSame(t *testing.T) {
	for _, set := range sets() {
		if slices.Contains(set, last) {
			continue
		}
		x := two(t)
		ignores(t, x, 2, true, set...)
		forks(t, x, 2, 3)
		forks(t, x, 3, 4)
		forks(t, x, 1, 5)
		ignoresJust(t, x, 3, set...)
		ignoresJust(t, x, 4, set...)
		ignoresJust(t, x, 5)
	}
}

func TestWhatIsIgnoredBehindAForkIsOnesOwn(t *testing.T) {
	x := two(t)
	ignores(t, x, 2, true, 3, 4)
	forks(t, x, 2, 3)
	ignores(t, x, 2, true, 1)
	ignores(t, x, 2, false, 3)
	ignores(t, x, 3, true, 6)
	ignores(t, x, 3, false, 4)
	ignoresJust(t, x, 2, 1, 4)
	ignoresJust(t, x, 3, 3, 6)
	exits(t, x, 2, 0)
	ignoresJust(t, x, 3, 3, 6)
	forks(t, x, 3, 4)
	ignoresJust(t, x, 4, 3, 6)
	ignoresJust(t, x, 1)
}

func TestForWhomIsForkedNothingWaits(t *testing.T) {
	x := two(t)
	kills(t, x, 2, 1, 5, last)
	forks(t, x, 2, 3)
	takes(t, x, 3)
	takes(t, x, 2, 1, 5, last)
	kills(t, x, 2, 6)
	kills(t, x, 3, 4)
	takes(t, x, 2, 6)
	takes(t, x, 3, 4)
}

func TestOfOneThatIsDeadNoneWaits(t *testing.T) {
	x := two(t)
	forks(t, x, 1, 3)
	ignores(t, x, 2, true, 7)
	kills(t, x, 2, 1, 2, last)
	kills(t, x, 3, 6)
	exits(t, x, 2, 5)
	for range 3 {
		if sig := x.Take(2); sig != 0 {
			t.Errorf("Take of one that is dead: %d: want 0", sig)
		}
	}
	refusesKill(t, x, 2, 4, api.ErrMissing)
	waits(t, x, 1, 2, 5)
	takes(t, x, 3, 6)
	forks(t, x, 1, 2)
	takes(t, x, 2)
	ignoresJust(t, x, 2)
}

// Signals stay with a process whose own one has ended, and with those that others are handed to.
func TestEndsLeaveTheSignalsOfOthers(t *testing.T) {
	x := two(t)
	forks(t, x, 2, 3)
	ignores(t, x, 3, true, 2)
	ignores(t, x, 1, true, 1)
	kills(t, x, 1, 4)
	kills(t, x, 3, 3, last)
	exits(t, x, 2, 0)
	takes(t, x, 1, 4)
	takes(t, x, 3, 3, last)
	ignoresJust(t, x, 1, 1)
	ignoresJust(t, x, 3, 2)
	kills(t, x, 3, 5)
	waits(t, x, 1, 2, 0)
	takes(t, x, 3, 5)
	ignoresJust(t, x, 3, 2)
}

func TestSignalsThatAreNone(t *testing.T) {
	for _, made := range []func(*testing.T) *proc.Table{some, full} {
		for _, sig := range noSignals {
			changesNothing(t, fmt.Sprint("signal ", sig), made, func(x *proc.Table) {
				for pid := -1; pid <= api.MaxProcs+1; pid++ { // also of those that do not run
					refusesKill(t, x, pid, sig, api.ErrRange)
					refusesIgnore(t, x, pid, sig, api.ErrRange)
				}
			})
		}
	}
}

func TestTakeChangesNothingWhereNothingWaits(t *testing.T) {
	changesNothing(t, "Take", some, func(x *proc.Table) {
		for _, pid := range append([]int{4, 5, 6, 7, 9, 10}, noPids...) {
			takes(t, x, pid)
		}
	})
	x := proc.New()
	for _, pid := range noPids {
		takes(t, x, pid)
	}
	has(t, "behind Take of none", x, runs(1, 0))
}

// Of Ignore three errors may come: each is told ahead of those behind it.
func TestWhichErrorOfSignalsComesFirst(t *testing.T) {
	x := some(t)
	for _, pid := range append([]int{4, 5, 7, 9}, noPids...) {
		refusesKill(t, x, pid, 0, api.ErrRange)
		refusesKill(t, x, pid, last+1, api.ErrRange)
		refusesKill(t, x, pid, 1, api.ErrMissing)
		refusesKill(t, x, pid, last, api.ErrMissing)
		refusesIgnore(t, x, pid, 0, api.ErrRange)
		refusesIgnore(t, x, pid, last+1, api.ErrRange)
		refusesIgnore(t, x, pid, 1, api.ErrMissing)
		refusesIgnore(t, x, pid, last, api.ErrMissing)
	}
}
