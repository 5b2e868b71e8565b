package proc_test

import (
	"fmt"
	"slices"
	"testing"

	"almshouse/api"
	"almshouse/proc"
)

// die has numbers that look drawn, the same each time.
type die uint64

func (d *die) below(n int) int {
	*d = *d*6364136223846793005 + 1442695040888963407
	return int(uint64(*d>>33) % uint64(n))
}

// one is a process.
type one struct {
	pid, parent, code int
	isDead            bool
	waiting, deaf     [api.Signals + 1]bool
}

// book is all by the document's words: a list of processes in no order.
type book struct{ ones []*one }

func newBook() *book { return &book{ones: []*one{{pid: 1}}} }

func (b *book) get(pid int) *one {
	for _, p := range b.ones {
		if p.pid == pid {
			return p
		}
	}
	return nil
}

func (b *book) running(pid int) *one {
	if p := b.get(pid); p != nil && !p.isDead {
		return p
	}
	return nil
}

func (b *book) rows() []row {
	var l []row
	for _, p := range b.ones {
		if p.isDead {
			l = append(l, dead(p.pid, p.parent))
		} else {
			l = append(l, runs(p.pid, p.parent))
		}
	}
	slices.SortFunc(l, func(a, b row) int { return a.pid - b.pid })
	return l
}

func (b *book) fork(pid int) (int, api.Errno) {
	p := b.running(pid)
	if p == nil {
		return 0, api.ErrMissing
	}
	for child := 1; child <= api.MaxProcs; child++ {
		if b.get(child) == nil {
			b.ones = append(b.ones, &one{pid: child, parent: pid, deaf: p.deaf})
			return child, api.OK
		}
	}
	return 0, api.ErrFull
}

func (b *book) exit(pid, code int) api.Errno {
	p := b.running(pid)
	switch {
	case p == nil:
		return api.ErrMissing
	case pid == 1:
		return api.ErrState
	}
	p.isDead, p.code = true, code
	for _, q := range b.ones {
		if q.parent == pid {
			q.parent = 1
		}
	}
	return api.OK
}

func (b *book) wait(pid int) (int, int, api.Errno) {
	if b.running(pid) == nil {
		return 0, 0, api.ErrMissing
	}
	e, least := api.ErrNone, -1
	for i, p := range b.ones {
		if p.parent != pid {
			continue
		}
		if e == api.ErrNone {
			e = api.ErrState
		}
		if p.isDead && (least < 0 || p.pid < b.ones[least].pid) {
			e, least = api.OK, i
		}
	}
	if e != api.OK {
		return 0, 0, e
	}
	p := b.ones[least]
	b.ones = slices.Delete(b.ones, least, least+1)
	return p.pid, p.code, api.OK
}

func (b *book) kill(pid, sig int) api.Errno {
	p := b.running(pid)
	switch {
	case sig < 1 || sig > api.Signals:
		return api.ErrRange
	case p == nil:
		return api.ErrMissing
	case !p.deaf[sig]:
		p.waiting[sig] = true
	}
	return api.OK
}

func (b *book) ignore(pid, sig int, on bool) api.Errno {
	p := b.running(pid)
	switch {
	case sig < 1 || sig > api.Signals:
		return api.ErrRange
	case p == nil:
		return api.ErrMissing
	case sig == api.Signals:
		return api.ErrState
	}
	p.deaf[sig] = on
	if on {
		p.waiting[sig] = false
	}
	return api.OK
}

func (b *book) take(pid int) int {
	p := b.running(pid)
	if p == nil {
		return 0
	}
	for sig, yes := range p.waiting {
		if yes {
			p.waiting[sig] = false
			return sig
		}
	}
	return 0
}

func same(t *testing.T, what string, got, want int) {
	t.Helper()
	if got != want {
		t.Errorf("%s: %d: want %d", what, got, want)
	}
}

// pid is drawn: now and then of one that cannot be there.
func (d *die) pid(most int) int {
	if d.below(30) == 0 {
		return noPids[d.below(len(noPids))]
	}
	return 1 + d.below(most)
}

func (d *die) sig() int {
	if d.below(30) == 0 {
		return noSignals[d.below(len(noSignals))]
	}
	return 1 + d.below(api.Signals)
}

// lives asks one thing that lets processes come, or go.
func lives(t *testing.T, d *die, x *proc.Table, b *book, most, forks int) {
	t.Helper()
	pid, code := d.pid(most), codes[d.below(len(codes))]+d.below(3)-1 // may wrap round
	switch do := d.below(6 + forks); {
	case do < 3:
		wrong(t, fmt.Sprintf("Exit(%d, %d)", pid, code), x.Exit(pid, code), b.exit(pid, code))
	case do < 6:
		child, code, err := x.Wait(pid)
		wantChild, wantCode, e := b.wait(pid)
		what := fmt.Sprintf("Wait(%d)", pid)
		wrong(t, what, err, e)
		same(t, what, child, wantChild)
		same(t, what+"'s code", code, wantCode)
	default:
		child, err := x.Fork(pid)
		want, e := b.fork(pid)
		what := fmt.Sprintf("Fork(%d)", pid)
		wrong(t, what, err, e)
		same(t, what, child, want)
	}
}

// tells asks one thing that has to do with signals.
func tells(t *testing.T, d *die, x *proc.Table, b *book, most int) {
	t.Helper()
	pid, sig, on := d.pid(most), d.sig(), d.below(2) == 0
	switch do := d.below(9); {
	case do < 4:
		wrong(t, fmt.Sprintf("Kill(%d, %d)", pid, sig), x.Kill(pid, sig), b.kill(pid, sig))
	case do < 6:
		wrong(t, fmt.Sprintf("Ignore(%d, %d, %v)", pid, sig, on), x.Ignore(pid, sig, on), b.ignore(pid, sig, on))
	default:
		same(t, fmt.Sprintf("Take(%d)", pid), x.Take(pid), b.take(pid))
	}
}

// endsAlike takes all signals, and lets all but 1 end and be waited for, in the table and in the book.
func endsAlike(t *testing.T, x *proc.Table, b *book) {
	t.Helper()
	for _, pid := range x.Pids() {
		for range api.Signals + 1 {
			same(t, fmt.Sprintf("in the end Take(%d)", pid), x.Take(pid), b.take(pid))
		}
		for sig := 1; sig <= api.Signals; sig++ {
			wrong(t, "in the end Kill", x.Kill(pid, sig), b.kill(pid, sig))
			same(t, fmt.Sprintf("in the end, behind Kill(%d, %d), Take", pid, sig), x.Take(pid), b.take(pid))
		}
		wrong(t, fmt.Sprintf("in the end Exit(%d)", pid), x.Exit(pid, 1000+pid), b.exit(pid, 1000+pid))
		has(t, "in the end", x, b.rows()...)
	}
	for range api.MaxProcs {
		child, code, err := x.Wait(1)
		wantChild, wantCode, e := b.wait(1)
		wrong(t, "in the end Wait", err, e)
		same(t, "in the end Wait", child, wantChild)
		same(t, "in the end Wait's code", code, wantCode)
	}
	has(t, "at last", x, runs(1, 0))
}

// Long walks, held against books. Some of them come to as many processes as there may be.
func TestWalksAreAsTheDocumentSays(t *testing.T) {
	d := die(9)
	fullest, forkless := 0, 0
	for i := range 200 {
		x, b := proc.New(), newBook()
		most, forks := 3+d.below(api.MaxProcs-1), 4+d.below(16)
		for step := range 300 {
			if d.below(5) < 2 {
				tells(t, &d, x, b, most)
			} else {
				lives(t, &d, x, b, most, forks)
			}
			has(t, "on a walk", x, b.rows()...)
			fullest = max(fullest, len(b.ones))
			if len(b.ones) == 1 {
				forkless++
			}
			if t.Failed() {
				t.Fatalf("walk %d, step %d", i, step)
			}
		}
		endsAlike(t, x, b)
		if t.Failed() {
			t.Fatalf("walk %d, in the end", i)
		}
	}
	if fullest != api.MaxProcs || forkless == 0 {
		t.Errorf("no walk came to all processes that may be (%d at most), or to one alone (%d times)", fullest, forkless)
	}
}

// step is one thing that is asked, of a table and of a book: what both answered.
type step func(x *proc.Table, b *book) (got, want string)

// steps are things that may be asked of three processes, and two signals.
func steps() []step {
	var l []step
	for pid := 1; pid <= 3; pid++ {
		l = append(l,
			func(x *proc.Table, b *book) (string, string) {
				child, err := x.Fork(pid)
				want, e := b.fork(pid)
				return fmt.Sprint("Fork ", child, int(api.Tell(err))), fmt.Sprint("Fork ", want, int(e))
			},
			func(x *proc.Table, b *book) (string, string) {
				return fmt.Sprint("Exit ", int(api.Tell(x.Exit(pid, 40+pid)))), fmt.Sprint("Exit ", int(b.exit(pid, 40+pid)))
			},
			func(x *proc.Table, b *book) (string, string) {
				child, code, err := x.Wait(pid)
				wantChild, wantCode, e := b.wait(pid)
				return fmt.Sprint("Wait ", child, code, int(api.Tell(err))), fmt.Sprint("Wait ", wantChild, wantCode, int(e))
			},
			func(x *proc.Table, b *book) (string, string) {
				return fmt.Sprint("Kill ", int(api.Tell(x.Kill(pid, 2)))), fmt.Sprint("Kill ", int(b.kill(pid, 2)))
			},
			func(x *proc.Table, b *book) (string, string) {
				return fmt.Sprint("Ignore ", int(api.Tell(x.Ignore(pid, 2, true)))), fmt.Sprint("Ignore ", int(b.ignore(pid, 2, true)))
			},
			func(x *proc.Table, b *book) (string, string) {
				return fmt.Sprint("Take ", x.Take(pid)), fmt.Sprint("Take ", b.take(pid))
			},
		)
	}
	return l
}

// Every few steps that there can be, behind a fork.
func TestEveryShortWalk(t *testing.T) {
	const long = 4
	l := steps()
	total := 1
	for range long {
		total *= len(l)
	}
	for n := range total {
		x, b := proc.New(), newBook()
		forks(t, x, 1, 2)
		_, _ = b.fork(1)
		for rest, i := n, 0; i < long; rest, i = rest/len(l), i+1 {
			if got, want := l[rest%len(l)](x, b); got != want {
				t.Fatalf("walk %d, step %d: %s: want %s", n, i, got, want)
			}
		}
		var pids []int
		for _, r := range b.rows() {
			pids = append(pids, r.pid)
			if x.State(r.pid) != r.state || x.Parent(r.pid) != r.parent {
				t.Fatalf("walk %d: process %d: state %d, of %d: want %v", n, r.pid, x.State(r.pid), x.Parent(r.pid), r)
			}
		}
		if got := x.Pids(); !slices.Equal(got, pids) {
			t.Fatalf("walk %d: processes %v: want %v", n, got, pids)
		}
	}
}
