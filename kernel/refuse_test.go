package kernel_test

import (
	"fmt"
	"math"
	"slices"
	"strings"
	"testing"

	"almshouse/api"
	"almshouse/kernel"
)

const (
	deadPid = 5 // of a rich kernel: it is dead
	gonePid = 7 // it was waited for
)

// rich is a kernel with something of all. 1 has numbers 0 (/a, both), 1 (/d/b, Writes, marked), 2 and 3 (a pipe with bytes), and pages 0 to 2 (both), 10, 11 (Reads), 12 (Writes); so have its forks:
// 2, with an adjustment, an ignored signal, two that wait, and a word of its own; 3, which has just as much as it may; 4, which holds a file without a name, and writes where nobody reads; 6, which is 2's, and has nothing; 5 and 7 are not there any more.
func rich(t *testing.T) *kernel.Kernel {
	t.Helper()
	b := newBox(t, 9)
	done(t, "Mkdir", b.Mkdir(1, "/d"))
	b.opens(1, "/a", both, 0)
	b.writes(1, 0, "0123456789", 10)
	b.seeks(1, 0, 4)
	b.opens(1, "/d/b", api.Writes, 1)
	done(t, "Mark", b.Mark(1, 1, true))
	b.pipes(1, 2, 3)
	b.writes(1, 3, "in the pipe", 11)
	b.maps(1, 0, 3)
	done(t, "Map", b.Map(1, 10, 2, api.Reads))
	done(t, "Map", b.Map(1, 12, 1, api.Writes))
	b.stores(1, 0, 0, 100)
	b.stores(1, 1, 7, 117)
	b.forks(1, 2)
	b.adjusts(2, 50)
	done(t, "Ignore", b.Ignore(2, 3, true))
	b.kills(1, 2, 6, 4, 3)
	b.stores(2, 0, 0, 200)
	b.forks(1, 3)
	b.limits(3, api.Pages, 6)
	b.limits(3, api.Fds, 4)
	b.limits(3, api.Bytes, 10)
	b.adjusts(3, -30)
	b.forks(1, 4)
	b.closes(4, 0, 1, 2, 3)
	b.opens(4, "/gone", both, 0)
	b.writes(4, 0, "held", 4)
	done(t, "Unlink", b.Unlink(4, "/gone"))
	b.pipes(4, 1, 2)
	b.closes(4, 1)
	b.stores(4, 2, 1, 400)
	b.forks(2, 5)
	b.forks(2, 6)
	b.exits(5, 55)
	done(t, "Exec", b.Exec(6))
	b.closes(6, 0, 2, 3)
	b.forks(6, gonePid)
	b.exits(gonePid, 0)
	b.waits(6, gonePid, 0)
	return b.Kernel
}

func richTwin(t *testing.T) *twin {
	return newTwin(func() *kernel.Kernel { return rich(t) })
}

func TestTheRichKernelIsAsItSays(t *testing.T) {
	b := &box{Kernel: rich(t), t: t}
	b.run([]int{1, 2, 3, 4, 6}, []int{deadPid})
	b.counts("a rich kernel", 5, 6, 5)
	b.has(1, 6, 2, 4)
	b.has(2, 6, 2, 4)
	b.has(3, 6, 2, 4)
	b.has(4, 6, 3, 2)
	b.has(6, 0, 0, 0)
	b.lists(1, "/", "a", "d")
	b.lists(1, "/d", "b")
}

// call is one that names who asks, with arguments that are right of process 1 of a rich kernel, or wrong ones; it tells whether all that stands beside the error is zero.
type call struct {
	what string
	ask  func(k *kernel.Kernel, pid int) (zero bool, err error)
}

// alone is a call that answers an error alone.
func alone(what string, ask func(k *kernel.Kernel, pid int) error) call {
	return call{what, func(k *kernel.Kernel, pid int) (bool, error) { return true, ask(k, pid) }}
}

func processCalls(other, sig, kind, n, adjust int) []call {
	return []call{
		{"Has", func(k *kernel.Kernel, pid int) (bool, error) {
			pages, resident, fds, err := k.Has(pid)
			return pages == 0 && resident == 0 && fds == 0, err
		}},
		{"Signal", func(k *kernel.Kernel, pid int) (bool, error) {
			ended, err := k.Signal(pid)
			return !ended, err
		}},
		{"Fork", func(k *kernel.Kernel, pid int) (bool, error) {
			child, err := k.Fork(pid)
			return child == 0, err
		}},
		{"Wait", func(k *kernel.Kernel, pid int) (bool, error) {
			child, code, err := k.Wait(pid)
			return child == 0 && code == 0, err
		}},
		alone("Exit", func(k *kernel.Kernel, pid int) error { return k.Exit(pid, n) }),
		alone("Exec", func(k *kernel.Kernel, pid int) error { return k.Exec(pid) }),
		alone("Kill", func(k *kernel.Kernel, pid int) error { return k.Kill(pid, other, sig) }),
		alone("Ignore", func(k *kernel.Kernel, pid int) error { return k.Ignore(pid, sig, true) }),
		alone("Ignore (off)", func(k *kernel.Kernel, pid int) error { return k.Ignore(pid, sig, false) }),
		alone("Limit", func(k *kernel.Kernel, pid int) error { return k.Limit(pid, kind, n) }),
		alone("Adjust", func(k *kernel.Kernel, pid int) error { return k.Adjust(pid, adjust) }),
	}
}

func memoryCalls(at, n, prot, w int) []call {
	return []call{
		alone("Map", func(k *kernel.Kernel, pid int) error { return k.Map(pid, at+20, n, prot) }),
		alone("Unmap", func(k *kernel.Kernel, pid int) error { return k.Unmap(pid, at, n) }),
		alone("Protect", func(k *kernel.Kernel, pid int) error { return k.Protect(pid, at, n, prot) }),
		{"Load", func(k *kernel.Kernel, pid int) (bool, error) {
			v, err := k.Load(pid, at, w)
			return v == 0, err
		}},
		{"Store", func(k *kernel.Kernel, pid int) (bool, error) {
			went, err := k.Store(pid, at, w, 9)
			return len(went) == 0, err
		}},
	}
}

func numberCalls(n, to, many, at int) []call {
	return []call{
		{"Pipe", func(k *kernel.Kernel, pid int) (bool, error) {
			from, into, err := k.Pipe(pid)
			return from == 0 && into == 0, err
		}},
		{"Dup", func(k *kernel.Kernel, pid int) (bool, error) {
			to, err := k.Dup(pid, n)
			return to == 0, err
		}},
		alone("Dup2", func(k *kernel.Kernel, pid int) error { return k.Dup2(pid, n, to) }),
		alone("Mark", func(k *kernel.Kernel, pid int) error { return k.Mark(pid, n, true) }),
		alone("Mark (off)", func(k *kernel.Kernel, pid int) error { return k.Mark(pid, n, false) }),
		alone("Close", func(k *kernel.Kernel, pid int) error { return k.Close(pid, n) }),
		{"Read", func(k *kernel.Kernel, pid int) (bool, error) {
			s, err := k.Read(pid, n, many)
			return s == "", err
		}},
		{"Write", func(k *kernel.Kernel, pid int) (bool, error) {
			many, err := k.Write(pid, n, "text")
			return many == 0, err
		}},
		alone("Seek", func(k *kernel.Kernel, pid int) error { return k.Seek(pid, n, at) }),
	}
}

func pathCalls(old, path string, prot int) []call {
	return []call{
		{"File", func(k *kernel.Kernel, pid int) (bool, error) {
			n, err := k.File(pid, old, prot, false)
			return n == 0, err
		}},
		{"File (makes)", func(k *kernel.Kernel, pid int) (bool, error) {
			n, err := k.File(pid, path, prot, true)
			return n == 0, err
		}},
		alone("Mkdir", func(k *kernel.Kernel, pid int) error { return k.Mkdir(pid, path) }),
		alone("Link", func(k *kernel.Kernel, pid int) error { return k.Link(pid, old, path) }),
		alone("Unlink", func(k *kernel.Kernel, pid int) error { return k.Unlink(pid, old) }),
		alone("Rename", func(k *kernel.Kernel, pid int) error { return k.Rename(pid, old, path) }),
		{"List", func(k *kernel.Kernel, pid int) (bool, error) {
			l, err := k.List(pid, "/")
			return len(l) == 0, err
		}},
	}
}

// rightCalls would be done of 1; wrongCalls are refused otherwise, of one that runs.
func rightCalls() []call {
	return slices.Concat(processCalls(2, 2, api.Fds, 5, 7), memoryCalls(0, 1, both, 0), numberCalls(0, 5, 3, 2), pathCalls("/a", "/new", both))
}

func wrongCalls() []call {
	return slices.Concat(processCalls(0, 0, -1, -1, 101), memoryCalls(-1, 0, 0, -1), numberCalls(-1, -1, -1, -1), pathCalls("", "no", 0),
		processCalls(gonePid, api.Signals+1, api.Limits, math.MaxInt, math.MinInt), memoryCalls(math.MaxInt, math.MaxInt, 4, math.MinInt), numberCalls(api.MaxFds, math.MaxInt, math.MinInt, math.MaxInt), pathCalls("/none/x", "/a/x", 4))
}

// 11.1: ErrMissing, unless pid runs, ahead of all else.
func TestWhoDoesNotRunIsRefused(t *testing.T) {
	w := richTwin(t)
	for _, c := range append(rightCalls(), wrongCalls()...) {
		for _, pid := range []int{0, deadPid, gonePid} {
			w.refuses(t, fmt.Sprintf("%s of %d", c.what, pid), api.ErrMissing, func(k *kernel.Kernel) (bool, error) { return c.ask(k, pid) })
		}
	}
}

// The same, of many pids: what is seen at once is as it was.
func TestManyPidsOfNobody(t *testing.T) {
	k := rich(t)
	before := seen(k)
	for _, c := range append(rightCalls(), wrongCalls()...) {
		for _, pid := range noPids {
			zero, err := c.ask(k, pid)
			wrong(t, fmt.Sprintf("%s of %d", c.what, pid), err, api.ErrMissing)
			if !zero {
				t.Errorf("%s of %d: something stands beside the error", c.what, pid)
			}
		}
	}
	if seen(k) != before {
		t.Error("it was refused, and changed something")
	}
	for _, pid := range append(noPids, gonePid) {
		if k.State(pid) != 0 {
			t.Errorf("State(%d): %d: it is not there", pid, k.State(pid))
		}
	}
}

// The calls that are right are right of 1: else the tests above would tell nothing of pids.
func TestTheRightCallsAreDone(t *testing.T) {
	for _, c := range rightCalls() {
		_, err := c.ask(rich(t), 1)
		want := api.OK
		switch c.what {
		case "Exit", "Wait":
			want = api.ErrState
		}
		wrong(t, c.what, err, want)
	}
}

// What no function made has nothing, and nothing panics.
func TestWhatWasNotMade(t *testing.T) {
	refused, _ := kernel.New(0)
	for _, k := range []*kernel.Kernel{refused, new(kernel.Kernel)} {
		for _, c := range append(rightCalls(), wrongCalls()...) {
			zero, err := c.ask(k, 1)
			wrong(t, c.what, err, api.ErrMissing)
			if !zero {
				t.Errorf("%s: something stands beside the error", c.what)
			}
		}
		if k.Left() != 0 || k.Open() != 0 || k.Nodes() != 0 || len(k.Pids()) != 0 || k.State(1) != 0 {
			t.Error("what was not made has something")
		}
	}
}

// 11.2: wrong inputs of those that run.

func TestExitOfTheFirst(t *testing.T) {
	w := richTwin(t)
	for _, code := range []int{0, 1, -1, 108, math.MinInt, math.MaxInt} {
		w.says(t, "Exit of 1", api.ErrState, func(k *kernel.Kernel) error { return k.Exit(1, code) })
	}
}

func TestWaitIsRefused(t *testing.T) {
	w := richTwin(t)
	for pid, want := range map[int]api.Errno{1: api.ErrState, 3: api.ErrNone, 4: api.ErrNone, 6: api.ErrNone} {
		w.refuses(t, fmt.Sprint("Wait of ", pid), want, func(k *kernel.Kernel) (bool, error) {
			child, code, err := k.Wait(pid)
			return child == 0 && code == 0, err
		})
	}
}

func TestKillIsRefused(t *testing.T) {
	w := richTwin(t)
	for _, sig := range noSignals {
		for _, other := range []int{1, 2, 4, deadPid, gonePid, 0} { // the signal is told first
			w.says(t, fmt.Sprintf("Kill(1, %d, %d)", other, sig), api.ErrRange, func(k *kernel.Kernel) error { return k.Kill(1, other, sig) })
		}
	}
	for _, other := range append([]int{deadPid, gonePid}, noPids...) {
		for _, sig := range []int{1, 5, api.Signals} {
			w.says(t, fmt.Sprintf("Kill(2, %d, %d)", other, sig), api.ErrMissing, func(k *kernel.Kernel) error { return k.Kill(2, other, sig) })
		}
	}
}

func TestIgnoreIsRefused(t *testing.T) {
	w := richTwin(t)
	for _, on := range []bool{false, true} {
		for _, sig := range noSignals {
			w.says(t, fmt.Sprintf("Ignore(2, %d)", sig), api.ErrRange, func(k *kernel.Kernel) error { return k.Ignore(2, sig, on) })
		}
		for _, pid := range []int{1, 2, 4} {
			w.says(t, "Ignore of the last signal", api.ErrState, func(k *kernel.Kernel) error { return k.Ignore(pid, api.Signals, on) })
		}
	}
}

func TestLimitIsRefused(t *testing.T) {
	w := richTwin(t)
	for _, kind := range noKinds {
		for _, n := range []int{0, 5, -1, math.MaxInt} { // the kind is told first
			w.says(t, fmt.Sprintf("Limit(1, %d, %d)", kind, n), api.ErrArg, func(k *kernel.Kernel) error { return k.Limit(1, kind, n) })
		}
	}
	for kind := range api.Limits {
		for _, n := range noAmounts {
			w.says(t, fmt.Sprintf("Limit(3, %d, %d)", kind, n), api.ErrRange, func(k *kernel.Kernel) error { return k.Limit(3, kind, n) })
		}
	}
}

func TestAdjustIsRefused(t *testing.T) {
	w := richTwin(t)
	for _, n := range noAdjusts {
		for _, pid := range []int{1, 2, 3} {
			w.says(t, fmt.Sprintf("Adjust(%d, %d)", pid, n), api.ErrRange, func(k *kernel.Kernel) error { return k.Adjust(pid, n) })
		}
	}
}

// 11.3: wrong inputs of those that run.

func TestSpansAreRefused(t *testing.T) {
	w := richTwin(t)
	for _, s := range noSpans {
		for _, prot := range []int{both, 0} { // the span is told first
			w.says(t, fmt.Sprintf("Map(3, %d, %d, %d)", s[0], s[1], prot), api.ErrRange, func(k *kernel.Kernel) error { return k.Map(3, s[0], s[1], prot) })
			w.says(t, fmt.Sprintf("Protect(3, %d, %d, %d)", s[0], s[1], prot), api.ErrRange, func(k *kernel.Kernel) error { return k.Protect(3, s[0], s[1], prot) })
		}
		w.says(t, fmt.Sprintf("Unmap(3, %d, %d)", s[0], s[1]), api.ErrRange, func(k *kernel.Kernel) error { return k.Unmap(3, s[0], s[1]) })
	}
}

func TestUsesAreRefused(t *testing.T) {
	w := richTwin(t)
	for _, prot := range noUses {
		for _, at := range []int{0, 20} { // it is told ahead of what is there, of what is not, and of the limit
			w.says(t, fmt.Sprintf("Map(3, %d, 1, %d)", at, prot), api.ErrArg, func(k *kernel.Kernel) error { return k.Map(3, at, 1, prot) })
			w.says(t, fmt.Sprintf("Protect(3, %d, 1, %d)", at, prot), api.ErrArg, func(k *kernel.Kernel) error { return k.Protect(3, at, 1, prot) })
		}
		w.refuses(t, fmt.Sprintf("File(1, /a, %d)", prot), api.ErrArg, func(k *kernel.Kernel) (bool, error) {
			n, err := k.File(1, "/a", prot, false)
			return n == 0, err
		})
	}
}

// Map's errors come ahead of ErrLimit.
func TestMapIsRefused(t *testing.T) {
	w := richTwin(t)
	for pid, l := range map[int][]struct {
		at, n int
		want  api.Errno
	}{
		1: {{0, 1, api.ErrTwice}, {2, 2, api.ErrTwice}, {9, 2, api.ErrTwice}, {0, api.MaxPages, api.ErrTwice}},
		3: {{0, 1, api.ErrTwice}, {2, 2, api.ErrTwice}, {12, 50, api.ErrTwice}, {0, api.MaxPages, api.ErrTwice}, {3, 1, api.ErrLimit}, {3, 7, api.ErrLimit}, {13, 51, api.ErrLimit}, {63, 1, api.ErrLimit}},
	} {
		for _, x := range l {
			for _, prot := range []int{api.Reads, api.Writes, both} {
				w.says(t, fmt.Sprintf("Map(%d, %d, %d)", pid, x.at, x.n), x.want, func(k *kernel.Kernel) error { return k.Map(pid, x.at, x.n, prot) })
			}
		}
	}
}

func TestPagesThatAreMissing(t *testing.T) {
	w := richTwin(t)
	for _, s := range [][2]int{{3, 1}, {2, 2}, {0, api.MaxPages}, {9, 2}, {63, 1}} {
		w.says(t, fmt.Sprintf("Unmap(1, %d, %d)", s[0], s[1]), api.ErrMissing, func(k *kernel.Kernel) error { return k.Unmap(1, s[0], s[1]) })
		w.says(t, fmt.Sprintf("Protect(1, %d, %d)", s[0], s[1]), api.ErrMissing, func(k *kernel.Kernel) error { return k.Protect(1, s[0], s[1], both) })
	}
}

func refusesWord(t *testing.T, w *twin, pid, at, word int, loads, stores api.Errno) {
	t.Helper()
	if loads != api.OK {
		w.refuses(t, fmt.Sprintf("Load(%d, %d, %d)", pid, at, word), loads, func(k *kernel.Kernel) (bool, error) {
			v, err := k.Load(pid, at, word)
			return v == 0, err
		})
	}
	if stores != api.OK {
		w.refuses(t, fmt.Sprintf("Store(%d, %d, %d)", pid, at, word), stores, func(k *kernel.Kernel) (bool, error) {
			went, err := k.Store(pid, at, word, 5)
			return len(went) == 0, err
		})
	}
}

func TestWordsAreRefused(t *testing.T) {
	w := richTwin(t)
	for _, at := range append([]int{3, 9, 13, 63}, noPages...) {
		for _, word := range []int{0, -1, api.Words} { // the page is told first
			refusesWord(t, w, 1, at, word, api.ErrMissing, api.ErrMissing)
		}
	}
	for _, word := range noWords { // the word is told ahead of the use
		for _, at := range []int{0, 10, 12} {
			refusesWord(t, w, 2, at, word, api.ErrRange, api.ErrRange)
		}
	}
	refusesWord(t, w, 2, 10, 0, api.OK, api.ErrFalse)
	refusesWord(t, w, 2, 12, 0, api.ErrFalse, api.OK)
}

// Nobody goes for a store that is wrong otherwise, though there is no memory.
func TestNobodyGoesForAWrongStore(t *testing.T) {
	w := newTwin(func() *kernel.Kernel {
		k := rich(t)
		for at := 20; k.Left() > 0; at++ {
			done(t, "Map", k.Map(2, at, 1, both))
			if went, err := k.Store(2, at, 0, 1); len(went) != 0 || err != nil {
				t.Fatalf("Store: %v, %v", went, err)
			}
		}
		return k
	})
	refusesWord(t, w, 1, 3, 0, api.OK, api.ErrMissing)
	refusesWord(t, w, 1, 2, -1, api.OK, api.ErrRange)
	refusesWord(t, w, 1, 10, 0, api.OK, api.ErrFalse)
}

// 11.4: wrong inputs of those that run.

func TestNumbersAreRefused(t *testing.T) {
	w := richTwin(t)
	for _, n := range append([]int{4, 7}, noNumbers...) {
		for _, x := range numberCalls(n, -1, -1, -1)[1:] { // that it is free is told first
			w.refuses(t, fmt.Sprintf("%s of the number %d", x.what, n), api.ErrMissing, func(k *kernel.Kernel) (bool, error) { return x.ask(k, 1) })
		}
	}
	for _, to := range noNumbers {
		w.says(t, fmt.Sprintf("Dup2(1, 0, %d)", to), api.ErrRange, func(k *kernel.Kernel) error { return k.Dup2(1, 0, to) })
		w.says(t, fmt.Sprintf("Dup2(3, 0, %d)", to), api.ErrRange, func(k *kernel.Kernel) error { return k.Dup2(3, 0, to) }) // ahead of ErrLimit
	}
}

func TestTheLimitOfNumbersIsTold(t *testing.T) {
	w := richTwin(t)
	for _, n := range []int{0, 3, 4, -1} { // ahead of what Dup tells
		w.refuses(t, fmt.Sprintf("Dup(3, %d)", n), api.ErrLimit, func(k *kernel.Kernel) (bool, error) {
			to, err := k.Dup(3, n)
			return to == 0, err
		})
	}
	w.refuses(t, "Pipe(3)", api.ErrLimit, func(k *kernel.Kernel) (bool, error) {
		from, into, err := k.Pipe(3)
		return from == 0 && into == 0, err
	})
	for _, path := range append([]string{"/a", "/new", "/none/x", "/d", "/a/x"}, noPaths...) { // ahead of what File tells
		for _, prot := range []int{both, 0} {
			w.refuses(t, fmt.Sprintf("File(3, %q, %d)", path, prot), api.ErrLimit, func(k *kernel.Kernel) (bool, error) {
				n, err := k.File(3, path, prot, true)
				return n == 0, err
			})
		}
	}
	w.says(t, "Dup2 onto a free one", api.ErrLimit, func(k *kernel.Kernel) error { return k.Dup2(3, 0, 7) })
	w.says(t, "Dup2 of a marked one onto a free one", api.ErrLimit, func(k *kernel.Kernel) error { return k.Dup2(3, 1, 4) })
	w.says(t, "Dup2 of one that is free", api.ErrMissing, func(k *kernel.Kernel) error { return k.Dup2(3, 4, 7) })
}

func TestReadWriteSeekAreRefused(t *testing.T) {
	w := richTwin(t)
	read := func(pid, n, many int, want api.Errno) {
		w.refuses(t, fmt.Sprintf("Read(%d, %d, %d)", pid, n, many), want, func(k *kernel.Kernel) (bool, error) {
			s, err := k.Read(pid, n, many)
			return s == "", err
		})
	}
	write := func(pid, n, size int, want api.Errno) {
		w.refuses(t, fmt.Sprintf("Write(%d, %d, %d bytes)", pid, n, size), want, func(k *kernel.Kernel) (bool, error) {
			many, err := k.Write(pid, n, strings.Repeat("w", size))
			return many == 0, err
		})
	}
	read(1, 1, 1, api.ErrFalse)
	read(1, 3, -1, api.ErrFalse)
	for _, many := range []int{-1, -256, math.MinInt} {
		read(1, 0, many, api.ErrRange)
		read(1, 2, many, api.ErrRange)
	}
	write(1, 2, 1, api.ErrFalse)
	write(1, 2, 0, api.ErrFalse)
	write(1, 0, api.MaxFile-3, api.ErrLimit) // it stands at 4
	write(3, 0, 7, api.ErrLimit)             // it may write up to 10
	write(3, 1, 11, api.ErrLimit)
	write(1, 1, api.MaxText, api.ErrLimit)
	for _, at := range []int{math.MinInt, -1, api.MaxFile + 1, 256, 1 << 32, math.MaxInt} {
		w.says(t, fmt.Sprintf("Seek(1, 0, %d)", at), api.ErrRange, func(k *kernel.Kernel) error { return k.Seek(1, 0, at) })
		w.says(t, fmt.Sprintf("Seek(1, 2, %d)", at), api.ErrState, func(k *kernel.Kernel) error { return k.Seek(1, 2, at) })
	}
}

func TestPathsAreRefused(t *testing.T) {
	w := richTwin(t)
	wants := map[string]api.Errno{"/none": api.ErrMissing, "/none/x": api.ErrMissing, "/d/x": api.ErrMissing, "/a/x": api.ErrState, "/d/b/x": api.ErrState, "/gone": api.ErrMissing}
	for _, path := range noPaths {
		wants[path] = api.ErrArg
	}
	for path, want := range wants {
		for _, c := range pathCalls(path, "/", both)[:1] {
			w.refuses(t, fmt.Sprintf("%s(1, %q)", c.what, path), want, func(k *kernel.Kernel) (bool, error) { return c.ask(k, 1) })
		}
		w.says(t, fmt.Sprintf("Link(1, %q)", path), want, func(k *kernel.Kernel) error { return k.Link(1, path, "/") })
		w.says(t, fmt.Sprintf("Unlink(1, %q)", path), want, func(k *kernel.Kernel) error { return k.Unlink(1, path) })
		w.says(t, fmt.Sprintf("Rename(1, %q)", path), want, func(k *kernel.Kernel) error { return k.Rename(1, path, "/") })
		w.refuses(t, fmt.Sprintf("List(1, %q)", path), want, func(k *kernel.Kernel) (bool, error) {
			l, err := k.List(1, path)
			return len(l) == 0, err
		})
	}
	places := map[string]api.Errno{"/": api.ErrArg, "/none/x": api.ErrMissing, "/a/x": api.ErrState, "/d/b/x": api.ErrState, "/d": api.ErrTwice, "/a": api.ErrTwice}
	for _, path := range noPaths {
		places[path] = api.ErrArg
	}
	for path, want := range places {
		w.says(t, fmt.Sprintf("Mkdir(1, %q)", path), want, func(k *kernel.Kernel) error { return k.Mkdir(1, path) })
		w.says(t, fmt.Sprintf("Link(1, /d/b, %q)", path), want, func(k *kernel.Kernel) error { return k.Link(1, "/d/b", path) })
		w.says(t, fmt.Sprintf("Rename(1, /d/b, %q)", path), want, func(k *kernel.Kernel) error { return k.Rename(1, "/d/b", path) })
	}
}

func TestDirectoriesAreRefused(t *testing.T) {
	w := richTwin(t)
	for _, path := range []string{"/", "/d"} {
		for _, makes := range []bool{false, true} {
			w.refuses(t, fmt.Sprintf("File(1, %q)", path), api.ErrState, func(k *kernel.Kernel) (bool, error) {
				n, err := k.File(1, path, both, makes)
				return n == 0, err
			})
		}
		w.says(t, fmt.Sprintf("Link(1, %q)", path), api.ErrState, func(k *kernel.Kernel) error { return k.Link(1, path, "/new") })
	}
	w.says(t, "Unlink of one with names", api.ErrState, func(k *kernel.Kernel) error { return k.Unlink(1, "/d") })
	w.says(t, "Unlink of the one of all", api.ErrArg, func(k *kernel.Kernel) error { return k.Unlink(1, "/") })
	w.says(t, "Rename into itself", api.ErrState, func(k *kernel.Kernel) error { return k.Rename(1, "/d", "/d/e") })
	w.refuses(t, "List of a file", api.ErrState, func(k *kernel.Kernel) (bool, error) {
		l, err := k.List(1, "/a")
		return len(l) == 0, err
	})
	w.refuses(t, "File that is made in no directory", api.ErrMissing, func(k *kernel.Kernel) (bool, error) {
		n, err := k.File(1, "/none/x", both, true)
		return n == 0, err
	})
	w.refuses(t, "File that is not to be made", api.ErrMissing, func(k *kernel.Kernel) (bool, error) {
		n, err := k.File(1, "/none", both, false)
		return n == 0, err
	})
}
