package oom_test

import (
	"fmt"
	"math"
	"slices"
	"testing"

	"almshouse/oom"
)

// Beside the bounds stand numbers that are ordinary ones in 8, 16 or 32 bits alone, and such of which a product or a sum wraps round.
var (
	none     = []int{math.MinInt, math.MinInt + 1, -1 << 32, -1<<32 + 5, -1 << 31, -1001, -1000, -999, -256, -1, 0}
	some     = []int{1, 2, 3, 10, 199, 200, 201, 255, 256, 257, 500, 998, 999}
	full     = []int{1000, 1001, 1002, 2000, 1 << 16, 1<<16 + 1, 1<<31 - 1, 1 << 31, 1<<32 - 1, 1 << 32, 1<<32 + 1, math.MaxInt / 200, math.MaxInt/200 + 1, math.MaxInt/100 + 1, math.MaxInt - 1, math.MaxInt}
	never    = []int{math.MinInt, math.MinInt + 1, -1 << 32, -1<<32 + 50, -1 << 31, -1 << 16, -1000, -256, -200, -102, -101, -100}
	ordinary = []int{-99, -98, -51, -50, -49, -1, 0, 1, 49, 50, 51, 98, 99}
	doubled  = []int{100, 101, 102, 127, 128, 200, 255, 256, 300, 1000, 1 << 16, 1<<31 - 1, 1 << 31, 1 << 32, 1<<32 + 50, math.MaxInt - 100, math.MaxInt - 99, math.MaxInt - 1, math.MaxInt}
	pids     = []int{math.MinInt, math.MinInt + 1, -1 << 32, -1000, -2, -1, 0, 1, 2, 24, 1000, 1<<31 - 1, 1 << 31, 1 << 32, 1<<32 + 1, math.MaxInt - 1, math.MaxInt}

	residents = slices.Concat(none, some, full)
	adjusts   = slices.Concat(never, ordinary, doubled)
)

func cand(pid, resident, adjust int) oom.Cand {
	return oom.Cand{Pid: pid, Resident: resident, Adjust: adjust}
}

// framed asks with a list ahead of which, and behind whose length, heavier ones stand; all must stay as it is.
func framed(t *testing.T, l []oom.Cand) (int, bool) {
	t.Helper()
	heavy := cand(math.MaxInt, 1000, 100)
	all := slices.Concat([]oom.Cand{heavy}, l, []oom.Cand{heavy, heavy})
	before := slices.Clone(all)
	pid, ok := oom.Victim(all[1 : 1+len(l)])
	if !slices.Equal(all, before) {
		t.Errorf("Victim(%v) wrote into its list: %v", l, all)
	}
	return pid, ok
}

// goes: who it is, in whatever order the candidates stand.
func goes(t *testing.T, want int, l ...oom.Cand) {
	t.Helper()
	tells(t, want, true, l)
}

// stays: nobody goes, in whatever order the candidates stand.
func stays(t *testing.T, l ...oom.Cand) {
	t.Helper()
	tells(t, 0, false, l)
}

func tells(t *testing.T, want int, wantOK bool, l []oom.Cand) {
	t.Helper()
	var wrong []string // the first order that is wrong tells enough
	arranged(l, func(l []oom.Cand) {
		if pid, ok := framed(t, l); pid != want || ok != wantOK {
			wrong = append(wrong, fmt.Sprintf("Victim(%v): %d, %v", l, pid, ok))
		}
	})
	if len(wrong) > 0 {
		t.Errorf("%s (and %d other orders): want %d, %v", wrong[0], len(wrong)-1, want, wantOK)
	}
}

// arranged calls with each order of at most five; of more with each that begins elsewhere, there and back.
func arranged(l []oom.Cand, call func([]oom.Cand)) {
	if len(l) <= 5 {
		orders(nil, l, call)
		return
	}
	for i := range l {
		turned := slices.Concat(l[i:], l[:i])
		call(slices.Clone(turned))
		slices.Reverse(turned)
		call(turned)
	}
}

func orders(done, left []oom.Cand, call func([]oom.Cand)) {
	if len(left) == 0 {
		call(slices.Clone(done))
	}
	for i, c := range left {
		orders(append(slices.Clone(done), c), slices.Delete(slices.Clone(left), i, i+1), call)
	}
}
