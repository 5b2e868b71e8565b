package kernel_test

import (
	"fmt"
	"slices"
	"strings"
	"testing"

	"almshouse/api"
	"almshouse/kernel"
)

// 11.1: kernels, and what there is.

func TestANewKernel(t *testing.T) {
	for _, n := range []int{1, 2, 5, 64, 100, 255, api.MaxFrames} {
		b := newBox(t, n)
		b.counts("a new kernel", n, 0, 1)
		b.run([]int{1}, nil)
		b.has(1, 0, 0, 0)
		b.lists(1, "/")
		b.ends(1, false)
		b.waitsFor(1, api.ErrNone)
	}
}

func TestNewRefusesWrongNumbers(t *testing.T) {
	for _, n := range noFrames {
		k, err := kernel.New(n)
		wrong(t, fmt.Sprintf("New(%d)", n), err, api.ErrRange)
		if k != nil {
			t.Errorf("New(%d): a kernel beside an error", n)
		}
	}
}

// All frames of a kernel can be had: of the greatest one by several, as none may have so many pages.
func TestAllFramesCanBeHad(t *testing.T) {
	b := newBox(t, 1)
	b.grows(1, 63, 1)
	b.counts("of 1", 0, 0, 1)
	b.maps(1, 0, 1)
	b.storesWith(1, 0, 0, 1, api.ErrFull)

	b = newBox(t, api.MaxFrames)
	for pid := 2; pid <= 5; pid++ {
		b.forks(1, pid)
		b.grows(pid, 0, api.MaxPages)
		b.has(pid, api.MaxPages, api.MaxPages, 0)
		b.counts("of MaxFrames", api.MaxFrames-(pid-1)*api.MaxPages, 0, 1)
	}
	b.maps(1, 0, 1)
	b.stores(1, 0, 0, 1, 5)
	b.counts("behind one that went", api.MaxPages-1, 0, 1)
}

// 1 may have MaxPages, MaxFds, and MaxFile bytes.
func TestWhatTheFirstMayHave(t *testing.T) {
	b := newBox(t, 3)
	b.maps(1, 0, api.MaxPages)
	for n := range api.MaxFds {
		b.opens(1, "/f", both, n)
	}
	b.has(1, api.MaxPages, 0, api.MaxFds)
	b.writes(1, 0, strings.Repeat("b", api.MaxFile), api.MaxFile)
	b.refusesWrite(1, 0, "b", api.ErrLimit)
	_, err := b.Dup(1, 0)
	wrong(t, "Dup of one more than it may", err, api.ErrLimit)
	b.limits(1, api.Fds, api.MaxFds+1)
	_, err = b.Dup(1, 0)
	wrong(t, "Dup of one more than there are numbers", err, api.ErrFull)
	b.limits(1, api.Bytes, api.MaxFile+1)
	b.refusesWrite(1, 0, "b", api.ErrLimit) // no file has more, whoever writes
	b.limits(1, api.Pages, 1_000_000)
	wrong(t, "Map of one that is there", b.Map(1, 0, 1, both), api.ErrTwice)
}

// Left, Open, Nodes, Pids, State and Has, step by step.
func TestWhatIsSeenAllTheWhile(t *testing.T) {
	b := newBox(t, 5)
	b.maps(1, 4, 3)
	b.has(1, 3, 0, 0)
	b.stores(1, 5, 2, -7)
	b.has(1, 3, 1, 0)
	b.opens(1, "/log", both, 0)
	b.has(1, 3, 1, 1)
	b.counts("a word and a file", 4, 1, 2)
	b.writes(1, 0, "one", 3)
	b.forks(1, 2)
	b.run([]int{1, 2}, nil)
	b.has(2, 3, 1, 1)
	b.counts("forked", 4, 1, 2)
	b.loads(2, 5, 2, -7)
	b.stores(2, 5, 2, 8)
	b.stores(2, 4, 0, 9)
	b.loads(1, 5, 2, -7)
	b.has(2, 3, 2, 1)
	b.counts("two frames of its own", 2, 1, 2)
	b.writes(2, 0, "two", 3)
	b.opens(2, "/mine", api.Writes, 1)
	b.counts("one more open", 2, 2, 3)
	b.seeks(1, 0, 0)
	b.reads(2, 0, whole, "onetwo")
	b.exits(2, 42)
	b.run([]int{1}, []int{2})
	b.counts("it ended", 4, 1, 3)
	b.has(1, 3, 1, 1)
	b.loads(1, 5, 2, -7)
	b.waits(1, 2, 42)
	b.run([]int{1}, nil)
	b.unmaps(1, 5, 1)
	b.closes(1, 0)
	b.has(1, 2, 0, 0)
	b.counts("all came back", 5, 0, 3)
	b.lists(1, "/", "log", "mine")
}

// What comes out is the caller's.
func TestAnswersAreTheCallers(t *testing.T) {
	b := newBox(t, 1)
	b.forks(1, 2)
	b.opens(1, "/a", both, 0)
	b.opens(1, "/b", both, 1)
	pids, again := b.Pids(), b.Pids()
	pids[0], pids[1] = 77, 78
	_ = append(pids[:1], 79)
	if !slices.Equal(again, []int{1, 2}) {
		t.Errorf("Pids: %v: two answers share memory", again)
	}
	b.run([]int{1, 2}, nil)
	names, err := b.List(1, "/")
	done(t, "List", err)
	names[0] = "changed"
	b.lists(1, "/", "a", "b")
	b.grows(2, 0, 1)
	b.maps(1, 0, 1)
	went, err := b.Store(1, 0, 0, 5)
	done(t, "Store", err)
	went[0] = 1
	b.run([]int{1}, []int{2})
	b.waits(1, 2, 108)
}

// Kernels share nothing.
func TestKernelsShareNothing(t *testing.T) {
	b, c := newBox(t, 2), newBox(t, 2)
	b.forks(1, 2)
	b.grows(1, 0, 2)
	b.opens(1, "/a", both, 0)
	b.limits(1, api.Fds, 1)
	c.counts("the other one", 2, 0, 1)
	c.run([]int{1}, nil)
	c.has(1, 0, 0, 0)
	c.pipes(1, 0, 1)
	c.lists(1, "/")
}
