package oom_test

import (
	"math"
	"slices"
	"testing"

	"almshouse/oom"
)

func TestWhoHasMostGoes(t *testing.T) {
	goes(t, 2, cand(2, 7, 0), cand(3, 6, 0))
	goes(t, 3, cand(2, 6, 0), cand(3, 7, 0))
	goes(t, 4, cand(2, 3, 0), cand(3, 1, 0), cand(4, 9, 0), cand(5, 8, 0), cand(6, 2, 0))
	goes(t, 2, cand(2, 100, 0), cand(3, 99, 0), cand(4, 98, 0), cand(5, 97, 0))
	goes(t, 17, cand(23, 1, 0), cand(17, 2, 0), cand(9, 0, 0))
}

// One of up to 24 weighs most: each of them, wherever it stands.
func TestWhereverItStands(t *testing.T) {
	for n := 1; n <= 24; n++ {
		for at := range n {
			var l []oom.Cand
			for i := range n {
				l = append(l, cand(100-i, 5+i%3, 0))
			}
			l[at].Resident = 8
			pid, ok := framed(t, l)
			if pid != 100-at || !ok {
				t.Errorf("Victim(%v): %d, %v: want %d, true", l, pid, ok, 100-at)
			}
		}
	}
}

func TestAdjustCountsMoreOrLess(t *testing.T) {
	goes(t, 2, cand(2, 5, 1), cand(3, 5, 0), cand(4, 5, -1))
	goes(t, 3, cand(2, 5, -10), cand(3, 5, 10), cand(4, 5, 9))
	goes(t, 2, cand(2, 3, 50), cand(3, 4, 0))                    // 450, 400
	goes(t, 3, cand(2, 3, 30), cand(3, 4, 0))                    // 390, 400
	goes(t, 2, cand(2, 4, 0), cand(3, 7, -50))                   // 400, 350
	goes(t, 3, cand(2, 4, 0), cand(3, 9, -50))                   // 400, 450
	goes(t, 4, cand(2, 10, -90), cand(3, 2, -60), cand(4, 1, 5)) // 100, 80, 105
	goes(t, 2, cand(2, 101, -99), cand(3, 1, 0))                 // 101, 100
	goes(t, 3, cand(2, 99, -99), cand(3, 1, 0))                  // 99, 100
	// Adjust is a share of what is there: it is not added to it.
	goes(t, 2, cand(2, 2, 0), cand(3, 1, 99))       // 200, 199
	goes(t, 3, cand(2, 1000, -50), cand(3, 501, 0)) // 50000, 50100
	goes(t, 2, cand(2, 501, 0), cand(3, 500, 0), cand(4, 1000, -51), cand(5, 250, 100))
	goes(t, 2, cand(2, 1, -99), cand(3, 0, 100)) // 1, 0
}

func TestResidentAtItsBounds(t *testing.T) {
	stays(t, cand(2, 0, 0))
	goes(t, 2, cand(2, 1, 0), cand(3, 0, 0))
	goes(t, 2, cand(2, 2, 0), cand(3, 1, 0))
	goes(t, 2, cand(2, 1000, 0), cand(3, 999, 0))
	goes(t, 2, cand(2, 1001, 0), cand(3, 999, 0))
	goes(t, 3, cand(2, 1001, 0), cand(3, 1000, 0)) // the same
	goes(t, 3, cand(2, 1000, 0), cand(3, 1001, 0))
	goes(t, 2, cand(2, 1000, 1), cand(3, 1001, 0))
	goes(t, 2, cand(2, 999, 100), cand(3, 1000, 99)) // 199800, 199000
	goes(t, 2, cand(2, 1000, 100), cand(3, 999, 100), cand(4, 1001, 99), cand(5, 998, 300))
	for i, more := range full {
		goes(t, 2, cand(2, more, 0), cand(3, 999, 0))
		goes(t, 2, cand(2, 1000, 1), cand(3, more, 0))
		goes(t, 2, cand(2, 501, 100), cand(3, more, 0)) // 100200, 100000
		goes(t, 3, cand(2, 499, 100), cand(3, more, 0)) // 99800, 100000
		goes(t, 2, cand(2, 11, 0), cand(3, more, -99))  // 1100, 1000
		goes(t, 3, cand(2, 9, 0), cand(3, more, -99))   // 900, 1000
		for _, other := range full[i:] {
			goes(t, 3, cand(2, more, 0), cand(3, other, 0))
			goes(t, 3, cand(3, more, 0), cand(2, other, 0))
		}
	}
}

func TestAdjustAtItsBounds(t *testing.T) {
	goes(t, 2, cand(2, 1, -99), cand(3, 1000, -100))
	goes(t, 2, cand(2, 1, -98), cand(3, 1, -99))
	goes(t, 2, cand(2, 1, 0), cand(3, 1, -1))
	goes(t, 2, cand(2, 1, 99), cand(3, 1, 98))
	goes(t, 2, cand(2, 1, 100), cand(3, 1, 99))
	goes(t, 3, cand(2, 1, 101), cand(3, 1, 100)) // the same
	goes(t, 3, cand(2, 1, 100), cand(3, 1, 101))
	for _, a := range never {
		stays(t, cand(2, 5, a))
		goes(t, 2, cand(2, 1, -99), cand(3, 1000, a), cand(4, math.MaxInt, a))
	}
	for i, a := range doubled {
		goes(t, 2, cand(2, 5, a), cand(3, 5, 99))
		goes(t, 2, cand(2, 11, 0), cand(3, 5, a)) // 1100, 1000
		goes(t, 3, cand(2, 9, 0), cand(3, 5, a))  // 900, 1000
		for _, other := range doubled[i:] {
			goes(t, 3, cand(2, 5, a), cand(3, 5, other))
			goes(t, 3, cand(3, 5, a), cand(2, 5, other))
		}
	}
}

func TestOneAlone(t *testing.T) {
	for _, pid := range pids {
		for _, resident := range residents {
			for _, adjust := range adjusts {
				if resident <= 0 || adjust <= -100 {
					stays(t, cand(pid, resident, adjust))
				} else {
					goes(t, pid, cand(pid, resident, adjust))
				}
			}
		}
	}
}

func TestOfSeveralThatWeighTheSameTheGreatestPidGoes(t *testing.T) {
	goes(t, 9, cand(7, 4, 0), cand(9, 4, 0), cand(8, 4, 0), cand(2, 4, 0), cand(3, 4, 0))
	goes(t, 10, cand(9, 4, 0), cand(10, 4, 0))                                                 // by numbers, not by texts
	goes(t, 8, cand(7, 4, 0), cand(8, 4, 0), cand(9, 3, 0), cand(30, 2, 99), cand(31, 0, 100)) // 30 weighs 398
	goes(t, 5, cand(2, 3, -40), cand(5, 3, -40), cand(3, 3, -40), cand(4, 3, -40))
	// by other numbers
	goes(t, 4, cand(2, 1, 100), cand(3, 2, 0), cand(4, 4, -50)) // 200
	goes(t, 4, cand(4, 1, 100), cand(2, 2, 0), cand(3, 4, -50), cand(9, 0, 100))
	goes(t, 4, cand(3, 1, 100), cand(4, 2, 0), cand(2, 4, -50))
	goes(t, 5, cand(2, 10, 0), cand(3, 1000, -99), cand(4, 5, 300), cand(5, 20, -50))   // 1000
	goes(t, 6, cand(6, 4, 25), cand(2, 5, 0), cand(3, 10, -50), cand(4, 500, -99))      // 500
	goes(t, 3, cand(2, 1000, 0), cand(3, 500, 100), cand(1, 800, 25), cand(0, 4000, 0)) // 100000
	for _, a := range pids {
		for _, b := range pids {
			goes(t, max(a, b), cand(a, 1, 100), cand(b, 2, 0))
			goes(t, max(a, b), cand(a, 3, 0), cand(b, 3, 0))
		}
	}
}

func TestTheSameOneTwice(t *testing.T) {
	goes(t, 3, cand(3, 5, 0), cand(3, 5, 0))
	goes(t, 3, cand(3, 5, 0), cand(3, 5, 0), cand(3, 5, 0), cand(2, 5, 0))
	goes(t, 4, cand(3, 5, 0), cand(3, 5, 0), cand(4, 6, 0)) // they do not weigh more together
	goes(t, 4, cand(3, 5, 0), cand(3, 5, 0), cand(4, 5, 0))
	goes(t, 3, cand(3, 9, 0), cand(3, 1, 0), cand(4, 8, 0)) // one of them weighs most
	goes(t, 3, cand(3, 9, 0), cand(3, 0, 0), cand(3, 9, -100), cand(4, 8, 0))
	stays(t, cand(3, 0, 0), cand(3, 0, 0))
}

func TestPidsAreAnyNumbers(t *testing.T) {
	goes(t, 0, cand(0, 1, 0))
	goes(t, 0, cand(0, 1, 0), cand(-1, 1, 0), cand(-7, 1, 0))
	goes(t, -1, cand(-1, 2, 0), cand(0, 1, 0), cand(5, 1, 0))
	goes(t, -2, cand(-2, 3, 0), cand(-5, 3, 0), cand(-3, 3, 0))
	goes(t, -5, cand(-5, 3, 0), cand(-2, 0, 0), cand(0, 0, 0), cand(4, 3, -100))
	for _, a := range pids {
		for _, b := range pids {
			goes(t, a, cand(a, 1, -98), cand(b, 1, -99))
			goes(t, a, cand(a, 1, -99), cand(b, 0, 100), cand(b, -1, 100), cand(b, 1, -100))
		}
	}
}

func TestNobodyGoes(t *testing.T) {
	if pid, ok := oom.Victim(nil); pid != 0 || ok {
		t.Errorf("Victim(nil): %d, %v: want 0, false", pid, ok)
	}
	if pid, ok := oom.Victim([]oom.Cand{}); pid != 0 || ok {
		t.Errorf("Victim of an empty list: %d, %v: want 0, false", pid, ok)
	}
	stays(t) // empty, with heavy ones behind its length
	stays(t, cand(5, 0, 0), cand(6, 0, 50), cand(7, 0, 100), cand(8, 0, -50))
	stays(t, cand(5, 1, -100), cand(6, 1000, -100), cand(7, 5, -101), cand(8, 9, math.MinInt))
	stays(t, cand(5, -1, 0), cand(6, -1000, 100), cand(7, math.MinInt, -99))
	stays(t, cand(5, 0, 0), cand(6, -4, 20), cand(7, 4, -100), cand(8, -4, -200), cand(9, 0, -100))
	for _, pid := range pids { // 0 is told beside false, whoever there is
		stays(t, cand(pid, 0, 0), cand(pid, 1, -100))
		stays(t, cand(pid, -1, -101), cand(-5, 0, 0), cand(5, 0, 0))
	}
	var many []oom.Cand
	for i := range 24 {
		many = append(many, cand(i+1, -i*(i%2), 100*(i%3-1)))
	}
	stays(t, many...)
	many[11] = cand(12, 1, -99)
	goes(t, 12, many...)
}

// Who weighs less than nothing by its numbers alone weighs nothing: neither its Resident nor its Adjust turns round.
func TestBelowNothingIsNothing(t *testing.T) {
	for _, resident := range none {
		for _, adjust := range adjusts {
			stays(t, cand(2, resident, adjust))
			goes(t, 1, cand(2, resident, adjust), cand(1, 1, -99))
			goes(t, -1, cand(2, resident, adjust), cand(-1, 1, -99), cand(3, 0, 0))
		}
	}
	for _, adjust := range never {
		for _, resident := range residents {
			stays(t, cand(2, resident, adjust))
			goes(t, 1, cand(2, resident, adjust), cand(1, 1, -99))
		}
	}
}

// Each who goes is taken off the list: the others go behind it by what they weigh.
func TestWhoHasMoreGoesSooner(t *testing.T) {
	l := []oom.Cand{
		cand(2, 4, 0), cand(3, 1, 100), cand(4, 0, 100), cand(5, 7, -50), cand(6, 2, 0), cand(7, 2000, -99),
		cand(8, 9, -100), cand(9, 10, 0), cand(10, 3, 50), cand(11, -3, 50), cand(12, 1, -99),
	}
	arranged(l, func(l []oom.Cand) {
		var went []int
		for range len(l) + 1 {
			pid, ok := framed(t, l)
			if !ok {
				break
			}
			went = append(went, pid)
			l = slices.DeleteFunc(l, func(c oom.Cand) bool { return c.Pid == pid })
		}
		if want := []int{9, 7, 10, 2, 5, 6, 3, 12}; !slices.Equal(went, want) {
			t.Errorf("one by one: %v: want %v", went, want)
		}
		if len(l) != 3 {
			t.Errorf("left: %v: want those that weigh nothing: 4, 8, 11", l)
		}
	})
}

// What is told hangs on the list alone: not on what was asked ahead.
func TestAskedAgain(t *testing.T) {
	a := []oom.Cand{cand(2, 900, 100), cand(3, 900, 100)}
	b := []oom.Cand{cand(5, 1, 0), cand(4, 1, 0)}
	for range 3 {
		goes(t, 3, a...)
		goes(t, 5, b...)
		stays(t)
		stays(t, cand(9, 0, 0))
	}
	a[0].Resident = 901 // the list is the caller's: what stands in it now counts
	goes(t, 2, a...)
}
