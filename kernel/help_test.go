package kernel_test

import (
	"fmt"
	"math"
	"slices"
	"strings"
	"testing"

	"almshouse/api"
	"almshouse/kernel"
	"almshouse/plain"
)

const (
	both  = api.Reads + api.Writes
	whole = math.MaxInt // more bytes than there ever are
)

var (
	// Beside the neighbours of what is right stand such as are right in 8, 16 or 32 bits alone.
	noFrames  = []int{math.MinInt, math.MinInt + 1, -1 << 32, 1 - 1<<32, -api.MaxFrames, -1, 0, api.MaxFrames + 1, 2 * api.MaxFrames, 1<<16 + 1, 1<<32 + 1, 1<<32 + 5, math.MaxInt}
	noPids    = []int{math.MinInt, math.MinInt + 1, 1 - 1<<32, -256, -2, -1, 0, api.MaxProcs, api.MaxProcs + 1, 256 + 1, 256 + 2, 1<<16 + 1, 1<<31 + 1, 1<<32 + 1, 1<<32 + 2, math.MaxInt}
	noSignals = []int{math.MinInt, math.MinInt + 1, 1 - 1<<32, -8, -1, 0, api.Signals + 1, 16, 64, 256 + 1, 1<<16 + 1, 1<<32 + 1, math.MaxInt}
	noKinds   = []int{math.MinInt, -1 << 32, -256, -1, api.Limits, api.Limits + 1, 256, 1 << 16, 1 << 32, 1<<32 + 1, math.MaxInt}
	noAmounts = []int{math.MinInt, -1 << 32, 5 - 1<<32, -1_000_000, -2, -1, 1_000_001, 1 << 32, 1<<32 + 5, math.MaxInt}
	noAdjusts = []int{math.MinInt, 5 - 1<<32, -256, -102, -101, 101, 102, 256, 1 << 16, 1 << 32, 1<<32 + 5, math.MaxInt}
	noUses    = []int{math.MinInt, -3, -1, 0, 4, 5, 7, 256 + 1, 1<<16 + 3, 1<<32 + 1, math.MaxInt}
	noPages   = []int{math.MinInt, -256, -api.MaxPages, -1, api.MaxPages, api.MaxPages + 1, 256, 1 << 16, 1 << 32, math.MaxInt}
	noWords   = []int{math.MinInt, -256, -api.Words, -1, api.Words, api.Words + 1, 256, 1 << 16, 1 << 32, math.MaxInt}
	noNumbers = []int{math.MinInt, -256, -api.MaxFds, -1, api.MaxFds, api.MaxFds + 1, 256, 1 << 16, 1 << 32, math.MaxInt}
	noPaths   = []string{"", "a", "a/", "//", "/a/", "//a", "/d//b", "/.", "/..", "/d/.", "/d/../a", "/" + strings.Repeat("n", api.MaxName+1)}
)

// noSpans are ats and ns such that there are no n pages from at on.
var noSpans = [][2]int{
	{0, 0}, {40, 0}, {0, -1}, {api.MaxPages, 0}, {-1, 1}, {-1, 2}, {0, api.MaxPages + 1}, {1, api.MaxPages}, {api.MaxPages - 1, 2}, {api.MaxPages, 1},
	{math.MaxInt, 1}, {1, math.MaxInt}, {math.MaxInt, math.MaxInt}, {math.MinInt, 1}, {0, math.MinInt}, {math.MinInt, math.MinInt}, {256, 1}, {0, 257}, {1 << 32, 1}, {0, 1<<32 + 1},
}

func wrong(t *testing.T, what string, err error, want api.Errno) {
	t.Helper()
	if e, place := plain.Place(err); e != want || place != -1 {
		t.Errorf("%s: error %d at %d: want %d, without a place", what, e, place, want)
	}
}

func done(t *testing.T, what string, err error) {
	t.Helper()
	if err != nil {
		t.Fatalf("%s: %v: want no error", what, err)
	}
}

// box is a kernel, and the test that asks it.
type box struct {
	*kernel.Kernel
	t *testing.T
}

func newBox(t *testing.T, frames int) *box {
	t.Helper()
	k, err := kernel.New(frames)
	if err != nil || k == nil {
		t.Fatalf("New(%d): %v, %v: want a kernel", frames, k, err)
	}
	return &box{Kernel: k, t: t}
}

// counts tells how many frames are left, entries open, and nodes there.
func (b *box) counts(what string, left, open, nodes int) {
	b.t.Helper()
	if b.Left() != left || b.Open() != open || b.Nodes() != nodes {
		b.t.Errorf("%s: %d left, %d open, %d nodes: want %d, %d, %d", what, b.Left(), b.Open(), b.Nodes(), left, open, nodes)
	}
}

func (b *box) has(pid, pages, resident, fds int) {
	b.t.Helper()
	p, r, f, err := b.Has(pid)
	if p != pages || r != resident || f != fds || err != nil {
		b.t.Errorf("Has(%d): %d, %d, %d, %v: want %d, %d, %d", pid, p, r, f, err, pages, resident, fds)
	}
}

// run tells just which processes run, and which are dead.
func (b *box) run(running, dead []int) {
	b.t.Helper()
	all := slices.Sorted(slices.Values(append(slices.Clone(running), dead...)))
	if !slices.Equal(b.Pids(), all) {
		b.t.Errorf("Pids: %v: want %v", b.Pids(), all)
	}
	for _, pid := range running {
		if b.State(pid) != api.Runs {
			b.t.Errorf("State(%d): %d: it runs", pid, b.State(pid))
		}
	}
	for _, pid := range dead {
		if b.State(pid) != api.Dead {
			b.t.Errorf("State(%d): %d: it is dead", pid, b.State(pid))
		}
	}
}

func (b *box) forks(pid, want int) {
	b.t.Helper()
	child, err := b.Fork(pid)
	done(b.t, fmt.Sprintf("Fork(%d)", pid), err)
	if child != want {
		b.t.Fatalf("Fork(%d): %d: want %d", pid, child, want)
	}
}

func (b *box) exits(pid, code int) {
	b.t.Helper()
	done(b.t, fmt.Sprintf("Exit(%d)", pid), b.Exit(pid, code))
}

func (b *box) waits(pid, child, code int) {
	b.t.Helper()
	if c, n, err := b.Wait(pid); c != child || n != code || err != nil {
		b.t.Errorf("Wait(%d): %d, %d, %v: want %d, %d", pid, c, n, err, child, code)
	}
}

func (b *box) waitsFor(pid int, want api.Errno) {
	b.t.Helper()
	c, n, err := b.Wait(pid)
	wrong(b.t, fmt.Sprintf("Wait(%d)", pid), err, want)
	if c != 0 || n != 0 {
		b.t.Errorf("Wait(%d): %d, %d beside an error", pid, c, n)
	}
}

func (b *box) kills(pid, other int, sigs ...int) {
	b.t.Helper()
	for _, sig := range sigs {
		done(b.t, fmt.Sprintf("Kill(%d, %d, %d)", pid, other, sig), b.Kill(pid, other, sig))
	}
}

func (b *box) ends(pid int, want bool) {
	b.t.Helper()
	if ended, err := b.Signal(pid); ended != want || err != nil {
		b.t.Errorf("Signal(%d): %v, %v: want %v", pid, ended, err, want)
	}
}

func (b *box) limits(pid, kind, n int) {
	b.t.Helper()
	done(b.t, fmt.Sprintf("Limit(%d, %d, %d)", pid, kind, n), b.Limit(pid, kind, n))
}

func (b *box) adjusts(pid, n int) {
	b.t.Helper()
	done(b.t, fmt.Sprintf("Adjust(%d, %d)", pid, n), b.Adjust(pid, n))
}

func (b *box) maps(pid, at, n int) {
	b.t.Helper()
	done(b.t, fmt.Sprintf("Map(%d, %d, %d)", pid, at, n), b.Map(pid, at, n, both))
}

func (b *box) unmaps(pid, at, n int) {
	b.t.Helper()
	done(b.t, fmt.Sprintf("Unmap(%d, %d, %d)", pid, at, n), b.Unmap(pid, at, n))
}

// stores tells who went for it.
func (b *box) stores(pid, at, w int, v int64, went ...int) {
	b.t.Helper()
	b.storesWith(pid, at, w, v, api.OK, went...)
}

func (b *box) storesWith(pid, at, w int, v int64, want api.Errno, went ...int) {
	b.t.Helper()
	l, err := b.Store(pid, at, w, v)
	wrong(b.t, fmt.Sprintf("Store(%d, %d, %d, %d)", pid, at, w, v), err, want)
	if !slices.Equal(l, went) {
		b.t.Errorf("Store(%d, %d, %d, %d): %v went: want %v", pid, at, w, v, l, went)
	}
}

// grows maps n pages from at on, and stores a word in each.
func (b *box) grows(pid, at, n int) {
	b.t.Helper()
	b.maps(pid, at, n)
	for i := range n {
		b.stores(pid, at+i, 0, int64(1+i))
	}
}

func (b *box) loads(pid, at, w int, want int64) {
	b.t.Helper()
	if v, err := b.Load(pid, at, w); v != want || err != nil {
		b.t.Errorf("Load(%d, %d, %d): %d, %v: want %d", pid, at, w, v, err, want)
	}
}

// opens opens a file, and makes it.
func (b *box) opens(pid int, path string, prot, want int) {
	b.t.Helper()
	if n, err := b.File(pid, path, prot, true); n != want || err != nil {
		b.t.Fatalf("File(%d, %q): %d, %v: want %d", pid, path, n, err, want)
	}
}

func (b *box) pipes(pid, from, into int) {
	b.t.Helper()
	if f, i, err := b.Pipe(pid); f != from || i != into || err != nil {
		b.t.Fatalf("Pipe(%d): %d, %d, %v: want %d, %d", pid, f, i, err, from, into)
	}
}

func (b *box) dups(pid, n, want int) {
	b.t.Helper()
	if to, err := b.Dup(pid, n); to != want || err != nil {
		b.t.Fatalf("Dup(%d, %d): %d, %v: want %d", pid, n, to, err, want)
	}
}

func (b *box) closes(pid int, numbers ...int) {
	b.t.Helper()
	for _, n := range numbers {
		done(b.t, fmt.Sprintf("Close(%d, %d)", pid, n), b.Close(pid, n))
	}
}

func (b *box) seeks(pid, n, at int) {
	b.t.Helper()
	done(b.t, fmt.Sprintf("Seek(%d, %d, %d)", pid, n, at), b.Seek(pid, n, at))
}

func (b *box) reads(pid, n, many int, want string) {
	b.t.Helper()
	if s, err := b.Read(pid, n, many); s != want || err != nil {
		b.t.Errorf("Read(%d, %d, %d): %q, %v: want %q", pid, n, many, s, err, want)
	}
}

func (b *box) writes(pid, n int, s string, want int) {
	b.t.Helper()
	if many, err := b.Write(pid, n, s); many != want || err != nil {
		b.t.Errorf("Write(%d, %d, %.20q): %d, %v: want %d", pid, n, s, many, err, want)
	}
}

func (b *box) refusesWrite(pid, n int, s string, want api.Errno) {
	b.t.Helper()
	many, err := b.Write(pid, n, s)
	wrong(b.t, fmt.Sprintf("Write(%d, %d, %.20q)", pid, n, s), err, want)
	if many != 0 {
		b.t.Errorf("Write(%d, %d, %.20q): %d beside an error", pid, n, s, many)
	}
}

func (b *box) lists(pid int, path string, want ...string) {
	b.t.Helper()
	if l, err := b.List(pid, path); !slices.Equal(l, want) || err != nil {
		b.t.Errorf("List(%d, %q): %q, %v: want %q", pid, path, l, err, want)
	}
}

// numbers tells just which numbers of a process are not free. (Mark with the mark that it has would tell it, but nobody knows that one: Read of below 0 bytes is refused otherwise.)
func (b *box) numbers(pid int, want ...int) {
	b.t.Helper()
	var l []int
	for n := range api.MaxFds {
		if _, err := b.Read(pid, n, -1); api.Tell(err) != api.ErrMissing {
			l = append(l, n)
		}
	}
	if !slices.Equal(l, want) {
		b.t.Errorf("process %d has the numbers %v: want %v", pid, l, want)
	}
}
