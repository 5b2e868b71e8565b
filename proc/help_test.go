package proc_test

import (
	"fmt"
	"math"
	"slices"
	"testing"

	"almshouse/api"
	"almshouse/plain"
	"almshouse/proc"
)

const last = api.Signals // the signal that is never ignored

var (
	// Beside the neighbours of the numbers stand such as are one of them in 8, 16 or 32 bits alone.
	noPids = []int{
		math.MinInt, math.MinInt + 1, math.MinInt + 2, -1 << 32, -1<<32 + 1, -256, -255, -api.MaxProcs, -2, -1, 0,
		api.MaxProcs + 1, api.MaxProcs + 2, 2 * api.MaxProcs, 256, 256 + 1, 256 + 2, 1<<16 + 1, 1<<16 + 2,
		1 << 31, 1<<31 + 1, 1<<32 - 1, 1 << 32, 1<<32 + 1, 1<<32 + 2, math.MaxInt - 1, math.MaxInt,
	}
	noSignals = []int{
		math.MinInt, math.MinInt + 1, math.MinInt + 3, -1 << 32, -1<<32 + 3, -256 + 3, -64, -63, -61, -last, -3, -1, 0,
		last + 1, last + 2, 2 * last, 16, 17, 31, 32, 33, 63, 64, 65, 64 + 3, 128 + 3, 256, 256 + 1, 256 + 3, 256 + last,
		1<<16 + 3, 1<<31 + 3, 1 << 32, 1<<32 + 1, 1<<32 + 3, 1<<32 + last, math.MaxInt - 1, math.MaxInt,
	}
	codes = []int{
		math.MinInt, math.MinInt + 1, -1<<32 - 1, -1 << 32, -1 << 31, -257, -256, -129, -128, -2, -1, 0, 1, 2, 100 + last,
		127, 128, 255, 256, 1<<15 + 1, 1 << 16, 1<<31 - 1, 1 << 31, 1<<32 - 1, 1 << 32, 1<<32 + 1, math.MaxInt - 1, math.MaxInt,
	}
)

func wrong(t *testing.T, what string, err error, want api.Errno) {
	t.Helper()
	if e, place := plain.Place(err); e != want || place != -1 {
		t.Errorf("%s: error %d at %d: want %d, without a place", what, e, place, want)
	}
}

func done(t *testing.T, what string, err error) {
	t.Helper()
	if err != nil {
		t.Fatalf("%s: %v: want no error", what, err)
	}
}

func forks(t *testing.T, x *proc.Table, pid, want int) {
	t.Helper()
	if child, err := x.Fork(pid); child != want || err != nil {
		t.Fatalf("Fork(%d): %d, %v: want %d", pid, child, err, want)
	}
}

func exits(t *testing.T, x *proc.Table, pid, code int) {
	t.Helper()
	done(t, fmt.Sprintf("Exit(%d, %d)", pid, code), x.Exit(pid, code))
}

func waits(t *testing.T, x *proc.Table, pid, child, code int) {
	t.Helper()
	if n, c, err := x.Wait(pid); n != child || c != code || err != nil {
		t.Fatalf("Wait(%d): %d, %d, %v: want %d, %d", pid, n, c, err, child, code)
	}
}

func kills(t *testing.T, x *proc.Table, pid int, sigs ...int) {
	t.Helper()
	for _, sig := range sigs {
		done(t, fmt.Sprintf("Kill(%d, %d)", pid, sig), x.Kill(pid, sig))
	}
}

func ignores(t *testing.T, x *proc.Table, pid int, on bool, sigs ...int) {
	t.Helper()
	for _, sig := range sigs {
		done(t, fmt.Sprintf("Ignore(%d, %d, %v)", pid, sig, on), x.Ignore(pid, sig, on))
	}
}

// takes takes all signals that wait, and tells that none does then.
func takes(t *testing.T, x *proc.Table, pid int, want ...int) {
	t.Helper()
	if l := taken(x, pid); !slices.Equal(l, want) {
		t.Errorf("Take(%d), until nothing waits: %v: want %v", pid, l, want)
	}
	if sig := x.Take(pid); sig != 0 {
		t.Errorf("Take(%d), where nothing waits: %d: want 0", pid, sig)
	}
}

// taken are all signals that waited (and one more, if it would not end).
func taken(x *proc.Table, pid int) []int {
	var l []int
	for range api.Signals + 1 {
		sig := x.Take(pid)
		if sig == 0 {
			break
		}
		l = append(l, sig)
	}
	return l
}

// ignored are the signals that do not wait when they are sent. (Where they wait already, they are taken.)
func ignored(x *proc.Table, pid int) []int {
	var l []int
	taken(x, pid)
	for sig := 1; sig <= api.Signals; sig++ {
		if err := x.Kill(pid, sig); err != nil {
			l = append(l, -sig)
		} else if got := taken(x, pid); len(got) == 0 {
			l = append(l, sig)
		} else if !slices.Equal(got, []int{sig}) {
			l = append(l, got...)
		}
	}
	return l
}

func ignoresJust(t *testing.T, x *proc.Table, pid int, want ...int) {
	t.Helper()
	if l := ignored(x, pid); !slices.Equal(l, want) {
		t.Errorf("%d ignores %v: want %v", pid, l, want)
	}
}

func refusesFork(t *testing.T, x *proc.Table, pid int, want api.Errno) {
	t.Helper()
	child, err := x.Fork(pid)
	wrong(t, fmt.Sprintf("Fork(%d)", pid), err, want)
	if child != 0 {
		t.Errorf("Fork(%d): %d beside an error", pid, child)
	}
}

func refusesExit(t *testing.T, x *proc.Table, pid, code int, want api.Errno) {
	t.Helper()
	wrong(t, fmt.Sprintf("Exit(%d, %d)", pid, code), x.Exit(pid, code), want)
}

func refusesWait(t *testing.T, x *proc.Table, pid int, want api.Errno) {
	t.Helper()
	child, code, err := x.Wait(pid)
	wrong(t, fmt.Sprintf("Wait(%d)", pid), err, want)
	if child != 0 || code != 0 {
		t.Errorf("Wait(%d): %d, %d beside an error", pid, child, code)
	}
}

func refusesKill(t *testing.T, x *proc.Table, pid, sig int, want api.Errno) {
	t.Helper()
	wrong(t, fmt.Sprintf("Kill(%d, %d)", pid, sig), x.Kill(pid, sig), want)
}

func refusesIgnore(t *testing.T, x *proc.Table, pid, sig int, want api.Errno) {
	t.Helper()
	for _, on := range []bool{false, true} {
		wrong(t, fmt.Sprintf("Ignore(%d, %d, %v)", pid, sig, on), x.Ignore(pid, sig, on), want)
	}
}

// refusesAll tells that a process does not run, whatever is asked of it, and which errors come ahead of that.
func refusesAll(t *testing.T, x *proc.Table, pid int) {
	t.Helper()
	wrong(t, fmt.Sprintf("Runs(%d)", pid), x.Runs(pid), api.ErrMissing)
	refusesFork(t, x, pid, api.ErrMissing)
	refusesExit(t, x, pid, 0, api.ErrMissing)
	refusesExit(t, x, pid, 99, api.ErrMissing)
	refusesWait(t, x, pid, api.ErrMissing)
	for sig := 1; sig <= api.Signals; sig++ {
		refusesKill(t, x, pid, sig, api.ErrMissing)
		refusesIgnore(t, x, pid, sig, api.ErrMissing)
	}
	for _, sig := range noSignals {
		refusesKill(t, x, pid, sig, api.ErrRange)
		refusesIgnore(t, x, pid, sig, api.ErrRange)
	}
	for range 2 {
		if sig := x.Take(pid); sig != 0 {
			t.Errorf("Take(%d): %d: want 0: it does not run", pid, sig)
		}
	}
}

// row is a process that there is, and whose it is.
type row struct{ pid, state, parent int }

func runs(pid, parent int) row { return row{pid, api.Runs, parent} }

func dead(pid, parent int) row { return row{pid, api.Dead, parent} }

// has tells just which processes there are, by rising numbers.
func has(t *testing.T, what string, x *proc.Table, want ...row) {
	t.Helper()
	var pids []int
	there := map[int]row{}
	for _, r := range want {
		pids = append(pids, r.pid)
		there[r.pid] = r
	}
	if l := x.Pids(); !slices.Equal(l, pids) {
		t.Errorf("%s: processes %v: want %v", what, l, pids)
	}
	asked := slices.Clone(noPids)
	for pid := range api.MaxProcs + 1 {
		asked = append(asked, pid)
	}
	for _, pid := range asked {
		r := there[pid]
		if x.State(pid) != r.state || x.Parent(pid) != r.parent {
			t.Errorf("%s: process %d: state %d, of %d: want %d, of %d", what, pid, x.State(pid), x.Parent(pid), r.state, r.parent)
		}
		if r.state == api.Runs {
			wrong(t, fmt.Sprintf("%s: Runs(%d)", what, pid), x.Runs(pid), api.OK)
		} else {
			wrong(t, fmt.Sprintf("%s: Runs(%d)", what, pid), x.Runs(pid), api.ErrMissing)
		}
	}
}

// whole is all that can be seen of a table, also by what changes it: it is used up by this.
func whole(x *proc.Table) string {
	s := ""
	pids := x.Pids()
	for _, pid := range pids {
		s += fmt.Sprintf("%d: state %d, of %d, %d;", pid, x.State(pid), x.Parent(pid), api.Tell(x.Runs(pid)))
		s += fmt.Sprintf(" %v wait,", taken(x, pid))
		s += fmt.Sprintf(" %v are ignored\n", ignored(x, pid))
	}
	for _, pid := range pids {
		s += fmt.Sprintf("of %d:", pid)
		for range api.MaxProcs {
			child, code, err := x.Wait(pid)
			s += fmt.Sprintf(" %d %d %d", child, code, api.Tell(err))
			if err != nil {
				break
			}
		}
		s += "\n"
	}
	s += "forked:"
	for range api.MaxProcs + 1 {
		child, err := x.Fork(1)
		s += fmt.Sprintf(" %d %d", child, api.Tell(err))
	}
	return s + "\n"
}

// changesNothing makes a table twice, and tells that what is asked of the one of them leaves all that can be seen.
func changesNothing(t *testing.T, what string, make func(*testing.T) *proc.Table, ask func(*proc.Table)) {
	t.Helper()
	x, untouched := make(t), make(t)
	ask(x)
	if got, want := whole(x), whole(untouched); got != want {
		t.Errorf("%s: it is now\n%swant as it was:\n%s", what, got, want)
	}
}

// some has processes of all kinds: 7 was there, and was waited for; signals wait for 1, 2, 3 and 8, and are ignored by 1, 2, 6 and 8.
func some(t *testing.T) *proc.Table {
	t.Helper()
	x := proc.New()
	for i, parent := range []int{1, 2, 2, 1, 3, 1, 1, 8} { // 2 to 9
		forks(t, x, parent, i+2)
	}
	ignores(t, x, 1, true, 5)
	ignores(t, x, 2, true, 1, 7)
	ignores(t, x, 6, true, 4)
	ignores(t, x, 8, true, 2, 5)
	kills(t, x, 1, 3, last)
	kills(t, x, 2, 6, 2)
	kills(t, x, 3, 1)
	kills(t, x, 4, 3, 5, last)
	kills(t, x, 8, 7)
	exits(t, x, 4, 40)
	exits(t, x, 5, -50)
	exits(t, x, 7, 70)
	waits(t, x, 1, 5, -50)
	waits(t, x, 1, 7, 70)
	forks(t, x, 1, 5)
	exits(t, x, 5, 51)
	exits(t, x, 9, 90)
	return x
}

// full has as many processes as there may be: 2 and 3 are dead, 4 is 3's no more, all others are 1's.
func full(t *testing.T) *proc.Table {
	t.Helper()
	x := proc.New()
	forks(t, x, 1, 2)
	forks(t, x, 1, 3)
	forks(t, x, 3, 4)
	for pid := 5; pid <= api.MaxProcs; pid++ {
		forks(t, x, 1, pid)
	}
	exits(t, x, 2, 22)
	exits(t, x, 3, 33)
	return x
}
