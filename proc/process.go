package proc

import (
	"math/bits"
	"slices"

	"almshouse/api"
)

const (
	first  = 1 // the process that never ends; it is handed the own ones of those that do
	nobody = 0
)

// process is one of a table. The zero value is one that is not there.
type process struct {
	state   int
	parent  int
	code    int     // of one that is Dead
	waiting signals // of one that runs: none of them is ignored
	ignored signals // of one that runs
}

// at is the process of a number.
func (t *Table) at(pid int) process {
	if t == nil {
		return process{}
	}
	return t.procs[pid]
}

// least is the least number that no process has.
func (t *Table) least() int {
	pid := first
	for t.State(pid) != 0 {
		pid++
	}
	return pid
}

// own are the processes that are one's own, rising.
func (t *Table) own(pid int) []int {
	return slices.DeleteFunc(t.Pids(), func(other int) bool { return t.Parent(other) != pid })
}

// hand lets a process be another one's own.
func (t *Table) hand(pid, to int) {
	p := t.procs[pid]
	p.parent = to
	t.procs[pid] = p
}

// signals are a set of signals: each is the bit of its number.
type signals uint

func isSignal(sig int) bool { return sig >= 1 && sig <= api.Signals }

func only(sig int) signals { return signals(1) << sig }

func (s signals) with(sig int) signals { return s | only(sig) }

func (s signals) without(others signals) signals { return s &^ others }

// least is the least of them (0: there is none).
func (s signals) least() int {
	if s == 0 {
		return 0
	}
	return bits.TrailingZeros(uint(s))
}
