package proc_test

import (
	"fmt"
	"slices"
	"testing"

	"almshouse/api"
	"almshouse/proc"
)

func TestAtFirstThereIsOne(t *testing.T) {
	x := proc.New()
	has(t, "at first", x, runs(1, 0))
	takes(t, x, 1)
	ignoresJust(t, x, 1)
	refusesWait(t, x, 1, api.ErrNone)
	has(t, "behind what is refused", x, runs(1, 0))
}

func TestTablesAreApart(t *testing.T) {
	x, y := proc.New(), proc.New()
	forks(t, x, 1, 2)
	kills(t, x, 1, 4)
	ignores(t, x, 1, true, 6)
	has(t, "the other one", y, runs(1, 0))
	takes(t, y, 1)
	ignoresJust(t, y, 1)
	forks(t, y, 1, 2)
	exits(t, y, 2, 9)
	has(t, "the one", x, runs(1, 0), runs(2, 1))
	takes(t, x, 1, 4)
	ignoresJust(t, x, 1, 6)
	refusesWait(t, x, 1, api.ErrState)
	has(t, "a new one", proc.New(), runs(1, 0))
}

func TestProcessesAreForkedByOneAndByOthers(t *testing.T) {
	x := proc.New()
	forks(t, x, 1, 2)
	has(t, "one more", x, runs(1, 0), runs(2, 1))
	forks(t, x, 2, 3)
	forks(t, x, 3, 4)
	forks(t, x, 2, 5)
	forks(t, x, 1, 6)
	has(t, "six", x, runs(1, 0), runs(2, 1), runs(3, 2), runs(4, 3), runs(5, 2), runs(6, 1))
	exits(t, x, 5, 55)
	has(t, "5 has ended", x, runs(1, 0), runs(2, 1), runs(3, 2), runs(4, 3), dead(5, 2), runs(6, 1))
	waits(t, x, 2, 5, 55)
	has(t, "5 was waited for", x, runs(1, 0), runs(2, 1), runs(3, 2), runs(4, 3), runs(6, 1))
}

// Five processes end in each order; meanwhile two of those that are dead are waited for, the least first.
func TestProcessesEndInAnyOrder(t *testing.T) {
	orders(5, func(order []int) {
		x := proc.New()
		for i := range order {
			forks(t, x, 1, i+2)
		}
		for i, o := range order {
			exits(t, x, o+2, 10*i+o)
			if i == 2 { // three are dead
				first := slices.Min(order[:3])
				waits(t, x, 1, first+2, 10*slices.Index(order, first)+first)
				second := slices.Max(order[:3])
				for _, o := range order[:3] {
					if o != first {
						second = min(second, o)
					}
				}
				waits(t, x, 1, second+2, 10*slices.Index(order, second)+second)
			}
		}
		rest := []int{slices.Max(order[:3]), order[3], order[4]}
		slices.Sort(rest)
		for _, o := range rest {
			waits(t, x, 1, o+2, 10*slices.Index(order, o)+o)
		}
		refusesWait(t, x, 1, api.ErrNone)
		has(t, fmt.Sprint(order), x, runs(1, 0))
	})
}

// orders calls with each order of 0 to below n.
func orders(n int, call func([]int)) {
	var put func(order []int)
	put = func(order []int) {
		if len(order) == n {
			call(slices.Clone(order))
		}
		for o := range n {
			if !slices.Contains(order, o) {
				put(append(slices.Clone(order), o))
			}
		}
	}
	put(nil)
}

func TestTheLeastNumberThatNoneHas(t *testing.T) {
	x := proc.New()
	for pid := 2; pid <= 9; pid++ {
		forks(t, x, 1, pid)
	}
	for _, pid := range []int{7, 3, 4} {
		exits(t, x, pid, pid)
	}
	forks(t, x, 1, 10) // those that are dead have their numbers yet
	waits(t, x, 1, 3, 3)
	waits(t, x, 1, 4, 4)
	forks(t, x, 9, 3)
	forks(t, x, 3, 4)
	forks(t, x, 3, 11)
	waits(t, x, 1, 7, 7)
	forks(t, x, 10, 7)
	forks(t, x, 1, 12)
	has(t, "numbers that are given again", x, runs(1, 0), runs(2, 1), runs(3, 9), runs(4, 3), runs(5, 1), runs(6, 1),
		runs(7, 10), runs(8, 1), runs(9, 1), runs(10, 1), runs(11, 3), runs(12, 1))
}

// Of each number that is free alone, and of each two.
func TestEachFreeNumberIsGivenAgain(t *testing.T) {
	for one := 2; one <= api.MaxProcs; one++ {
		for other := one; other <= api.MaxProcs; other++ {
			x := proc.New()
			for pid := 2; pid <= api.MaxProcs; pid++ {
				forks(t, x, 1, pid)
			}
			exits(t, x, other, 1)
			waits(t, x, 1, other, 1)
			if one != other {
				exits(t, x, one, 2)
				waits(t, x, 1, one, 2)
				forks(t, x, 1, one)
			}
			forks(t, x, 1, other)
			refusesFork(t, x, 1, api.ErrFull)
		}
	}
}

func TestANumberThatIsGivenAgainBeginsAnew(t *testing.T) {
	x := proc.New()
	forks(t, x, 1, 2)
	forks(t, x, 2, 3)
	ignores(t, x, 3, true, 1, 6)
	kills(t, x, 3, 2, 5, last)
	exits(t, x, 3, 77)
	waits(t, x, 2, 3, 77)
	ignores(t, x, 1, true, 4)
	forks(t, x, 1, 3)
	has(t, "3 is another one", x, runs(1, 0), runs(2, 1), runs(3, 1))
	takes(t, x, 3)
	ignoresJust(t, x, 3, 4)
	refusesWait(t, x, 1, api.ErrState)
	refusesWait(t, x, 2, api.ErrNone)
	refusesWait(t, x, 3, api.ErrNone)
	exits(t, x, 3, 0)
	waits(t, x, 1, 3, 0)
}

func TestAsManyProcessesAsThereMayBe(t *testing.T) {
	x := proc.New()
	rows := []row{runs(1, 0)}
	for pid := 2; pid <= api.MaxProcs; pid++ {
		forks(t, x, pid/2, pid)
		rows = append(rows, runs(pid, pid/2))
	}
	has(t, "full", x, rows...)
	for pid := 1; pid <= api.MaxProcs; pid++ {
		refusesFork(t, x, pid, api.ErrFull)
	}
	has(t, "full, behind what is refused", x, rows...)
	exits(t, x, api.MaxProcs, 4)
	for pid := 1; pid < api.MaxProcs; pid++ { // who is dead counts
		refusesFork(t, x, pid, api.ErrFull)
	}
	rows[api.MaxProcs-1].state = api.Dead
	has(t, "full, with a dead one", x, rows...)
	waits(t, x, api.MaxProcs/2, api.MaxProcs, 4)
	forks(t, x, 5, api.MaxProcs)
	rows[api.MaxProcs-1] = runs(api.MaxProcs, 5)
	has(t, "full again", x, rows...)
	refusesFork(t, x, 1, api.ErrFull)
}

func TestManyAreForkedOneByOne(t *testing.T) {
	x := proc.New()
	for i := range 70_000 { // more than 16 bits count
		forks(t, x, 1, 2)
		exits(t, x, 2, i)
		waits(t, x, 1, 2, i)
	}
	has(t, "behind many", x, runs(1, 0))
	for pid := 2; pid <= api.MaxProcs; pid++ {
		forks(t, x, 1, pid)
	}
	refusesFork(t, x, 1, api.ErrFull)
}

func TestCodes(t *testing.T) {
	for _, code := range codes {
		x := proc.New()
		forks(t, x, 1, 2)
		forks(t, x, 2, 3)
		forks(t, x, 2, 4)
		exits(t, x, 4, code-1)
		exits(t, x, 3, code)
		waits(t, x, 2, 3, code)
		exits(t, x, 2, code+1) // 4 is dead, and is 1's with its code
		waits(t, x, 1, 2, code+1)
		waits(t, x, 1, 4, code-1)
		has(t, "all were waited for", x, runs(1, 0))
	}
}

func TestWhoEndsIsDeadUntilItIsWaitedFor(t *testing.T) {
	x := some(t)
	rows := []row{runs(1, 0), runs(2, 1), runs(3, 2), dead(4, 2), dead(5, 1), runs(6, 3), runs(8, 1), dead(9, 8)}
	has(t, "at first", x, rows...)
	for _, r := range rows {
		if r.state == api.Dead {
			refusesAll(t, x, r.pid)
		}
	}
	has(t, "behind what is refused", x, rows...)
	waits(t, x, 8, 9, 90)
	refusesAll(t, x, 9)
	waits(t, x, 2, 4, 40)
	refusesAll(t, x, 4)
	waits(t, x, 1, 5, 51)
	refusesAll(t, x, 5)
	has(t, "behind all", x, runs(1, 0), runs(2, 1), runs(3, 2), runs(6, 3), runs(8, 1))
}

func TestTheCodeIsTheFirstExits(t *testing.T) {
	x := proc.New()
	forks(t, x, 1, 2)
	exits(t, x, 2, 5)
	refusesExit(t, x, 2, 6, api.ErrMissing)
	kills(t, x, 1, 7)
	refusesKill(t, x, 2, 7, api.ErrMissing)
	waits(t, x, 1, 2, 5)
}

func TestWhoseOneIsWhoseOwnOneHasEnded(t *testing.T) {
	x := proc.New()
	forks(t, x, 1, 2)
	forks(t, x, 2, 3)
	forks(t, x, 3, 4)
	forks(t, x, 3, 5)
	forks(t, x, 5, 6)
	forks(t, x, 2, 7)
	exits(t, x, 3, 30)
	has(t, "3 has ended", x, runs(1, 0), runs(2, 1), dead(3, 2), runs(4, 1), runs(5, 1), runs(6, 5), runs(7, 2))
	refusesWait(t, x, 1, api.ErrState)
	exits(t, x, 5, 50)
	has(t, "5 has ended", x, runs(1, 0), runs(2, 1), dead(3, 2), runs(4, 1), dead(5, 1), runs(6, 1), runs(7, 2))
	waits(t, x, 1, 5, 50)
	exits(t, x, 6, 60)
	exits(t, x, 4, 40)
	waits(t, x, 1, 4, 40)
	waits(t, x, 1, 6, 60)
	refusesWait(t, x, 1, api.ErrState)
	waits(t, x, 2, 3, 30)
	has(t, "2 and 7 are left", x, runs(1, 0), runs(2, 1), runs(7, 2))
}

func TestWhoEndsWhoseOwnAreDead(t *testing.T) {
	x := proc.New()
	forks(t, x, 1, 2)
	forks(t, x, 2, 3)
	forks(t, x, 2, 4)
	forks(t, x, 3, 5)
	exits(t, x, 5, 50)
	exits(t, x, 3, 30)
	has(t, "3 and 5 are dead", x, runs(1, 0), runs(2, 1), dead(3, 2), runs(4, 2), dead(5, 1))
	exits(t, x, 2, 20)
	has(t, "all but 4 are dead", x, runs(1, 0), dead(2, 1), dead(3, 1), runs(4, 1), dead(5, 1))
	waits(t, x, 1, 2, 20)
	waits(t, x, 1, 3, 30)
	waits(t, x, 1, 5, 50)
	refusesWait(t, x, 1, api.ErrState)
	has(t, "4 is left", x, runs(1, 0), runs(4, 1))
}

// In a line of processes each is the next one's; whichever ends, the next one is 1's, and the others stay.
func TestALine(t *testing.T) {
	for gone := 2; gone <= api.MaxProcs; gone++ {
		x := proc.New()
		rows := []row{runs(1, 0)}
		for pid := 2; pid <= api.MaxProcs; pid++ {
			forks(t, x, pid-1, pid)
			rows = append(rows, runs(pid, pid-1))
		}
		exits(t, x, gone, 8)
		rows[gone-1] = dead(gone, gone-1)
		if gone < api.MaxProcs {
			rows[gone] = runs(gone+1, 1)
		}
		has(t, fmt.Sprintf("%d has ended", gone), x, rows...)
		waits(t, x, gone-1, gone, 8)
		has(t, fmt.Sprintf("%d was waited for", gone), x, slices.Delete(rows, gone-1, gone)...)
	}
}

// Nobody is lost: whoever ends, in whatever order, somebody can wait for.
func TestAllComeToOneInTheEnd(t *testing.T) {
	orders(6, func(order []int) {
		x := proc.New()
		for pid := 2; pid <= 7; pid++ {
			forks(t, x, pid/2, pid)
		}
		for _, o := range order {
			exits(t, x, o+2, 100+o)
		}
		for pid := 2; pid <= 7; pid++ {
			waits(t, x, 1, pid, 98+pid)
		}
		refusesWait(t, x, 1, api.ErrNone)
		has(t, fmt.Sprint(order), x, runs(1, 0))
	})
}

func TestTheLeastDeadOneComesFirst(t *testing.T) {
	x := proc.New()
	forks(t, x, 1, 2)
	for pid := 3; pid <= 12; pid++ {
		forks(t, x, 1+pid%2, pid) // the odd ones are 2's
	}
	for _, pid := range []int{11, 12, 3, 10, 7, 8} {
		exits(t, x, pid, 10*pid)
	}
	waits(t, x, 2, 3, 30)
	waits(t, x, 1, 8, 80)
	exits(t, x, 5, 50)
	exits(t, x, 4, 40)
	waits(t, x, 2, 5, 50)
	waits(t, x, 2, 7, 70)
	waits(t, x, 1, 4, 40)
	waits(t, x, 2, 11, 110)
	refusesWait(t, x, 2, api.ErrState) // 9 runs
	waits(t, x, 1, 10, 100)
	waits(t, x, 1, 12, 120)
	refusesWait(t, x, 1, api.ErrState)
	has(t, "in the end", x, runs(1, 0), runs(2, 1), runs(6, 1), runs(9, 2))
}

func TestWaitOfOneThatHasNone(t *testing.T) {
	x := proc.New()
	forks(t, x, 1, 2)
	forks(t, x, 2, 3)
	refusesWait(t, x, 3, api.ErrNone)
	refusesWait(t, x, 2, api.ErrState)
	refusesWait(t, x, 1, api.ErrState)
	exits(t, x, 3, 3) // one's own ones' own are not one's own
	refusesWait(t, x, 1, api.ErrState)
	waits(t, x, 2, 3, 3)
	refusesWait(t, x, 2, api.ErrNone)
	exits(t, x, 2, 2)
	refusesWait(t, x, 2, api.ErrMissing)
	waits(t, x, 1, 2, 2)
	refusesWait(t, x, 1, api.ErrNone)
}

func TestOneNeverEnds(t *testing.T) {
	for _, made := range []func(*testing.T) *proc.Table{some, full, func(*testing.T) *proc.Table { return proc.New() }} {
		for _, code := range codes {
			changesNothing(t, "Exit of 1", made, func(x *proc.Table) { refusesExit(t, x, 1, code, api.ErrState) })
		}
	}
}

func TestNumbersOfNone(t *testing.T) {
	for _, made := range []func(*testing.T) *proc.Table{some, full, func(*testing.T) *proc.Table { return proc.New() }} {
		free := slices.Clone(noPids)
		for x, pid := made(t), 1; pid <= api.MaxProcs; pid++ {
			if x.State(pid) == 0 {
				free = append(free, pid)
			}
		}
		for _, pid := range free {
			changesNothing(t, fmt.Sprint("process ", pid), made, func(x *proc.Table) {
				refusesAll(t, x, pid)
				if x.State(pid) != 0 || x.Parent(pid) != 0 {
					t.Errorf("process %d: state %d, of %d: it is not there", pid, x.State(pid), x.Parent(pid))
				}
			})
		}
	}
}

func TestWhatIsDeadRefusesAll(t *testing.T) {
	for _, pid := range []int{4, 5, 9} {
		changesNothing(t, fmt.Sprint("process ", pid), some, func(x *proc.Table) { refusesAll(t, x, pid) })
	}
	for _, pid := range []int{2, 3} {
		changesNothing(t, fmt.Sprint("process ", pid), full, func(x *proc.Table) { refusesAll(t, x, pid) })
	}
}

func TestWhatIsRefusedChangesNothing(t *testing.T) {
	changesNothing(t, "Fork", full, func(x *proc.Table) {
		for pid := 4; pid <= api.MaxProcs; pid++ {
			refusesFork(t, x, pid, api.ErrFull)
		}
		refusesFork(t, x, 1, api.ErrFull)
	})
	changesNothing(t, "Wait", some, func(x *proc.Table) {
		refusesWait(t, x, 3, api.ErrState)
		refusesWait(t, x, 6, api.ErrNone)
	})
	changesNothing(t, "Pids, State, Parent, Runs", some, func(x *proc.Table) {
		for pid := -3; pid <= api.MaxProcs+3; pid++ {
			_, _, _, _ = x.Pids(), x.State(pid), x.Parent(pid), x.Runs(pid)
		}
	})
}

// Of a full table it is told first who does not run.
func TestWhichErrorComesFirst(t *testing.T) {
	x := full(t)
	for _, pid := range append([]int{2, 3}, noPids...) {
		refusesFork(t, x, pid, api.ErrMissing)
	}
	refusesFork(t, x, 4, api.ErrFull)
}

func TestPidsAreTheCallers(t *testing.T) {
	x := some(t)
	want := []int{1, 2, 3, 4, 5, 6, 8, 9}
	l, other := x.Pids(), x.Pids()
	for i := range l {
		l[i] = -7
	}
	l = append(l, 10, 11)
	slices.Reverse(l)
	if !slices.Equal(other, want) {
		t.Errorf("what Pids gave once more: %v: want %v", other, want)
	}
	rest := other[len(other):cap(other)]
	for i := range rest {
		rest[i] = 12
	}
	if got := x.Pids(); !slices.Equal(got, want) {
		t.Errorf("Pids: %v: want %v", got, want)
	}
	before := x.Pids()
	forks(t, x, 1, 7)
	waits(t, x, 1, 5, 51)
	if !slices.Equal(before, want) {
		t.Errorf("what Pids gave is %v now: want %v, as it was", before, want)
	}
	has(t, "all the while", x, runs(1, 0), runs(2, 1), runs(3, 2), dead(4, 2), runs(6, 3), runs(7, 1), runs(8, 1), dead(9, 8))
}

// The same calls are answered alike, however often they are made anew.
func TestTheSameCallsAreAnsweredAlike(t *testing.T) {
	want := whole(some(t))
	for range 100 {
		if got := whole(some(t)); got != want {
			t.Fatalf("at first\n%sand then\n%s", want, got)
		}
	}
}

// What New did not make has no processes.
func TestNothingPanics(t *testing.T) {
	for _, x := range []*proc.Table{nil, {}} {
		for pid := range 3 {
			refusesAll(t, x, pid)
		}
		has(t, "what New did not make", x)
	}
}
