package oom_test

import (
	"math/big"
	"testing"

	"almshouse/oom"
)

// die has numbers that look drawn, the same each time.
type die uint64

func (d *die) below(n int) int {
	*d = *d*6364136223846793005 + 1442695040888963407
	return int(uint64(*d>>33) % uint64(n))
}

func (d *die) of(l []int) int { return l[d.below(len(l))] }

// weighs is what a candidate weighs, by the document's words, in numbers that never wrap round.
func weighs(c oom.Cand) *big.Int {
	resident, adjust := big.NewInt(int64(c.Resident)), big.NewInt(int64(c.Adjust))
	if resident.Sign() < 0 {
		resident.SetInt64(0)
	}
	if resident.Cmp(big.NewInt(1000)) > 0 {
		resident.SetInt64(1000)
	}
	if adjust.Cmp(big.NewInt(-100)) < 0 {
		adjust.SetInt64(-100)
	}
	if adjust.Cmp(big.NewInt(100)) > 0 {
		adjust.SetInt64(100)
	}
	return adjust.Add(adjust, big.NewInt(100)).Mul(adjust, resident)
}

// asked: it goes of whom no other one weighs more, nor as much with a greater Pid.
func asked(l []oom.Cand) (int, bool) {
	for _, c := range l {
		w, first := weighs(c), true
		for _, other := range l {
			by := weighs(other).Cmp(w)
			first = first && (by < 0 || by == 0 && other.Pid <= c.Pid)
		}
		if first {
			if w.Sign() == 0 {
				return 0, false
			}
			return c.Pid, true
		}
	}
	return 0, false
}

func agrees(t *testing.T, l ...oom.Cand) {
	t.Helper()
	pid, ok := framed(t, l)
	if want, wantOK := asked(l); pid != want || ok != wantOK {
		t.Errorf("Victim(%v): %d, %v: want %d, %v", l, pid, ok, want, wantOK)
	}
}

// Each number that is an edge stands against others of both fields.
func TestEdgesByPairs(t *testing.T) {
	for _, resident := range residents {
		for _, adjust := range adjusts {
			for i, other := range residents {
				a, b := cand(2, resident, adjust), cand(3, other, adjusts[i%len(adjusts)])
				agrees(t, a, b)
				agrees(t, b, a)
			}
			for i, other := range adjusts {
				a, b := cand(3, resident, adjust), cand(2, residents[i%len(residents)], other)
				agrees(t, a, b)
				agrees(t, b, a)
			}
		}
	}
}

// From -1 to 1001 each Resident stands against its neighbour, and from -101 to 101 each Adjust.
func TestEachNumberAgainstItsNeighbour(t *testing.T) {
	for n := -1; n <= 1001; n++ {
		for _, adjust := range []int{-100, -99, 0, 100} {
			agrees(t, cand(2, n+1, adjust), cand(3, n, adjust))
			agrees(t, cand(3, n+1, adjust), cand(2, n, adjust))
		}
	}
	for n := -102; n <= 101; n++ {
		for _, resident := range []int{0, 1, 2, 999, 1000} {
			agrees(t, cand(2, resident, n+1), cand(3, resident, n))
			agrees(t, cand(3, resident, n+1), cand(2, resident, n))
		}
	}
}

func TestListsThatAreDrawn(t *testing.T) {
	d := die(10)
	for range 20_000 {
		var l []oom.Cand
		for range d.below(9) {
			switch d.below(3) {
			case 0: // small numbers: many weigh the same
				l = append(l, cand(d.below(6)-2, d.below(5), 25*(d.below(10)-5)))
			case 1:
				l = append(l, cand(d.below(30), d.below(1200)-100, d.below(240)-120))
			default:
				l = append(l, cand(d.of(pids), d.of(residents), d.of(adjusts)))
			}
		}
		agrees(t, l...)
	}
}

// A list as long as a program may well have one ends soon.
func TestALongList(t *testing.T) {
	const n = 1 << 20
	l := make([]oom.Cand, n)
	for i := range l {
		l[i] = cand(i, 1+i%900, i%150-99)
	}
	for _, at := range []int{0, 1, n / 2, n - 2, n - 1} {
		kept := l[at]
		l[at] = cand(-at, 1000, 99)
		if pid, ok := oom.Victim(l); pid != -at || !ok {
			t.Errorf("the heaviest at %d: %d, %v: want %d, true", at, pid, ok, -at)
		}
		l[at] = kept
	}
}
