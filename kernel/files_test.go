package kernel_test

import (
	"fmt"
	"strings"
	"testing"

	"almshouse/api"
	"almshouse/kernel"
)

// 11.4: files.

func TestFilesAreMadeAndGo(t *testing.T) {
	b := newBox(t, 1)
	done(t, "Mkdir", b.Mkdir(1, "/d"))
	b.opens(1, "/d/f", both, 0)
	b.writes(1, 0, "some bytes", 10)
	b.seeks(1, 0, 5)
	b.reads(1, 0, 3, "byt")
	b.writes(1, 0, "!", 1)
	b.closes(1, 0)
	b.forks(1, 2)
	b.opens(2, "/d/f", api.Reads, 0)
	b.reads(2, 0, whole, "some byt!s")
	b.reads(2, 0, whole, "")
	done(t, "Link", b.Link(2, "/d/f", "/g"))
	b.lists(1, "/", "d", "g")
	done(t, "Rename", b.Rename(1, "/g", "/d/a"))
	b.lists(2, "/", "d")
	b.lists(2, "/d", "a", "f")
	done(t, "Rename", b.Rename(1, "/d", "/e"))
	b.lists(1, "/e", "a", "f")
	done(t, "Unlink", b.Unlink(1, "/e/a"))
	done(t, "Unlink", b.Unlink(1, "/e/f"))
	done(t, "Unlink", b.Unlink(1, "/e"))
	b.lists(1, "/")
	b.counts("it is held", 1, 1, 2)
	b.seeks(2, 0, 0)
	b.reads(2, 0, 4, "some")
	b.opens(1, "/d", both, 0) // the name is free
	b.counts("another one", 1, 2, 3)
	b.closes(2, 0)
	b.counts("it went", 1, 1, 2)
}

// A file without a name goes with the one that holds it, whichever way that ends.
func TestAFileWithoutANameGoes(t *testing.T) {
	for way, end := range []func(b *box){
		func(b *box) { b.exits(2, 0) },
		func(b *box) { b.kills(1, 2, 3); b.ends(2, true) },
		func(b *box) { done(b.t, "Mark", b.Mark(2, 0, true)); done(b.t, "Exec", b.Exec(2)) },
		func(b *box) { b.closes(2, 0) },
		func(b *box) { b.pipes(2, 1, 2); done(b.t, "Dup2", b.Dup2(2, 1, 0)); b.closes(2, 0, 1, 2) },
		func(b *box) { b.grows(2, 0, 1); b.maps(1, 0, 1); b.stores(1, 0, 0, 1, 2); b.unmaps(1, 0, 1) },
	} {
		b := newBox(t, 1)
		b.forks(1, 2)
		b.opens(2, "/gone", both, 0)
		b.writes(2, 0, "bytes", 5)
		done(t, "Unlink", b.Unlink(1, "/gone"))
		_, err := b.File(1, "/gone", both, false)
		wrong(t, "File", err, api.ErrMissing)
		b.seeks(2, 0, 0)
		b.reads(2, 0, 5, "bytes")
		if b.Nodes() != 2 || b.Open() != 1 {
			t.Errorf("way %d: %d nodes, %d open: want 2, 1", way, b.Nodes(), b.Open())
		}
		end(b)
		if b.Nodes() != 1 || b.Open() != 0 {
			t.Errorf("way %d: %d nodes, %d open behind it: want 1, 0", way, b.Nodes(), b.Open())
		}
		b.opens(1, "/gone", both, 0)
		b.reads(1, 0, whole, "")
	}
}

// Two talk by a pipe that one of them made ahead of the fork.
func TestTwoTalkByAPipe(t *testing.T) {
	b := newBox(t, 1)
	b.pipes(1, 0, 1)
	b.forks(1, 2)
	b.closes(1, 0)
	b.closes(2, 1)
	_, err := b.Read(2, 0, 5)
	wrong(t, "Read", err, api.ErrNone)
	b.writes(1, 1, "hello, 2", 8)
	b.reads(2, 0, 5, "hello")
	b.writes(1, 1, strings.Repeat("m", 20), 13)
	b.refusesWrite(1, 1, "more", api.ErrFull)
	b.ends(1, false) // no signal comes of that
	b.reads(2, 0, whole, ", 2"+strings.Repeat("m", 13))
	b.exits(1+1, 0)
	b.refusesWrite(1, 1, "more", api.ErrDevice)
	b.waits(1, 2, 0)
	b.counts("one end is open", 1, 1, 1)
	b.pipes(1, 0, 2)
	b.forks(1, 2)
	b.closes(2, 0, 1)
	b.closes(1, 2)
	b.writes(2, 2, "bye", 3)
	b.exits(2, 0)
	b.reads(1, 0, 5, "bye")
	b.reads(1, 0, 5, "") // none will come
}

// With ErrDevice signal 5 waits for who writes: it ends, if it does not ignore it, and is not 1.
func TestWriteWhereNobodyReads(t *testing.T) {
	b := newBox(t, 1)
	b.pipes(1, 0, 1)
	b.closes(1, 0)
	for pid := 2; pid <= 4; pid++ {
		b.forks(1, pid)
		b.ends(pid, false)
	}
	done(t, "Ignore", b.Ignore(3, 5, true))
	b.refusesWrite(2, 1, "x", api.ErrDevice)
	b.refusesWrite(3, 1, "x", api.ErrDevice)
	b.refusesWrite(1, 1, "x", api.ErrDevice)
	b.run([]int{1, 2, 3, 4}, nil) // it waits yet
	b.ends(1, false)
	b.ends(4, false) // it did not write
	b.ends(3, false)
	b.ends(2, true)
	b.waits(1, 2, 105)
	b.refusesWrite(4, 1, "", api.ErrDevice) // of no bytes, too
	b.kills(1, 4, 6)
	b.ends(4, true)
	b.waits(1, 4, 105)
	b.closes(1, 1)
	b.closes(3, 1)
	b.counts("none is open", 1, 0, 1)
}

// No other error lets a signal wait.
func TestOtherErrorsOfWriteLetNoSignalWait(t *testing.T) {
	b := newBox(t, 1)
	b.forks(1, 2)
	b.opens(2, "/f", both, 0)
	b.opens(2, "/f", api.Reads, 1)
	b.pipes(2, 2, 3)
	b.writes(2, 3, strings.Repeat("f", api.PipeBytes), api.PipeBytes)
	b.refusesWrite(2, 0, strings.Repeat("f", api.MaxFile+1), api.ErrLimit)
	b.refusesWrite(2, 1, "f", api.ErrFalse)
	b.refusesWrite(2, 2, "f", api.ErrFalse)
	b.refusesWrite(2, 3, "f", api.ErrFull)
	b.refusesWrite(2, 4, "f", api.ErrMissing)
	b.ends(2, false)
}

func TestTheLimitOfBytes(t *testing.T) {
	b := newBox(t, 1)
	b.limits(1, api.Bytes, 10)
	b.opens(1, "/f", both, 0)
	b.refusesWrite(1, 0, "01234567890", api.ErrLimit)
	b.writes(1, 0, "01234567", 8)
	b.refusesWrite(1, 0, "890", api.ErrLimit)
	b.writes(1, 0, "89", 2) // just so
	b.refusesWrite(1, 0, "a", api.ErrLimit)
	b.writes(1, 0, "", 0)
	b.seeks(1, 0, 150)
	b.writes(1, 0, "", 0)
	b.refusesWrite(1, 0, "a", api.ErrLimit)
	b.seeks(1, 0, 9)
	b.writes(1, 0, "x", 1)
	b.seeks(1, 0, 0)
	b.reads(1, 0, whole, "012345678x")
	b.opens(1, "/g", both, 1) // each file may have so many
	b.writes(1, 1, "0123456789", 10)
	b.forks(1, 2)
	b.limits(2, api.Bytes, 1_000_000)
	b.writes(2, 0, "yz", 2)
	b.refusesWrite(2, 0, strings.Repeat("y", 189), api.ErrLimit) // no file has more than MaxFile
	b.writes(2, 0, strings.Repeat("y", 188), 188)
	b.refusesWrite(1, 0, "a", api.ErrLimit)
	b.seeks(1, 0, 11)
	b.reads(1, 0, 3, "zyy")
}

// 11.4: numbers, and how many there may be.

func TestDup2AtTheLimit(t *testing.T) {
	b := newBox(t, 1)
	b.opens(1, "/f", both, 0)
	b.opens(1, "/g", both, 1)
	b.opens(1, "/h", both, 2)
	b.limits(1, api.Fds, 3)
	done(t, "Mark", b.Mark(1, 2, true))
	wrong(t, "Dup2 onto a free one", b.Dup2(1, 0, 3), api.ErrLimit)
	b.numbers(1, 0, 1, 2)
	done(t, "Dup2 onto its own", b.Dup2(1, 2, 2))
	b.counts("nothing is changed", 1, 3, 4)
	done(t, "Dup2 onto one that is open", b.Dup2(1, 0, 2))
	b.counts("one entry went", 1, 2, 4)
	b.has(1, 0, 0, 3)
	done(t, "Exec", b.Exec(1)) // it is not marked any more
	b.numbers(1, 0, 1, 2)
	b.limits(1, api.Fds, 4)
	done(t, "Dup2 onto a free one", b.Dup2(1, 1, 7))
	b.numbers(1, 0, 1, 2, 7)
	wrong(t, "Dup2 onto another one", b.Dup2(1, 1, 6), api.ErrLimit)
	b.closes(1, 7)
	done(t, "Dup2 onto another one", b.Dup2(1, 1, 6))
	b.has(1, 0, 0, 4)
}

func TestPipeWithOneNumberLeft(t *testing.T) {
	b := newBox(t, 1)
	b.limits(1, api.Fds, 3)
	b.opens(1, "/f", both, 0)
	b.dups(1, 0, 1)
	_, _, err := b.Pipe(1)
	wrong(t, "Pipe with one left by the limit", err, api.ErrLimit)
	b.numbers(1, 0, 1)
	b.closes(1, 0)
	b.pipes(1, 0, 2) // just so
	b.limits(1, api.Fds, 100)
	for n := 3; n < 7; n++ {
		b.dups(1, 1, n)
	}
	_, _, err = b.Pipe(1)
	wrong(t, "Pipe with one left by the table", err, api.ErrFull)
	b.has(1, 0, 0, 7)
	b.dups(1, 1, 7) // what was refused was not charged
	b.limits(1, api.Fds, 8)
	_, err = b.Dup(1, 0)
	wrong(t, "Dup at both limits", err, api.ErrLimit)
	_, _, err = b.Pipe(1)
	wrong(t, "Pipe at both limits", err, api.ErrLimit)
	b.limits(1, api.Fds, 9)
	_, err = b.File(1, "/f", both, false)
	wrong(t, "File with a full table", err, api.ErrFull)
	_, _, err = b.Pipe(1)
	wrong(t, "Pipe with a full table, and one left by the limit", err, api.ErrLimit)
	b.limits(1, api.Fds, 10)
	_, _, err = b.Pipe(1)
	wrong(t, "Pipe with a full table", err, api.ErrFull)
}

// What was refused otherwise counts nothing: all numbers can be had then.
func TestRefusedNumbersAreNotCharged(t *testing.T) {
	b := newBox(t, 1)
	b.limits(1, api.Fds, 2)
	for range 20 {
		_, err := b.File(1, "/none", both, false)
		wrong(t, "File", err, api.ErrMissing)
		_, err = b.File(1, "/", both, true)
		wrong(t, "File", err, api.ErrState)
		_, err = b.File(1, "/f", 0, true)
		wrong(t, "File", err, api.ErrArg)
		_, err = b.Dup(1, 0)
		wrong(t, "Dup", err, api.ErrMissing)
		wrong(t, "Dup2", b.Dup2(1, 0, 1), api.ErrMissing)
		wrong(t, "Close", b.Close(1, 0), api.ErrMissing)
	}
	b.counts("nothing", 1, 0, 1)
	b.opens(1, "/f", both, 0)
	b.dups(1, 0, 1)
	_, err := b.Dup(1, 0)
	wrong(t, "Dup", err, api.ErrLimit)
}

// MaxOpen is of all processes together.
func TestAsMuchAsCanBeOpen(t *testing.T) {
	build := func() *kernel.Kernel {
		b := newBox(t, 1)
		for pid := 2; pid <= 6; pid++ {
			b.forks(1, pid)
			for n := range api.MaxFds {
				b.opens(pid, fmt.Sprint("/f", n), both, n)
			}
		}
		b.closes(6, 7)
		b.opens(1, "/x", both, 0)
		return b.Kernel
	}
	w := newTwin(build)
	b := &box{Kernel: build(), t: t}
	b.counts("all is open", 1, api.MaxOpen, 10)
	w.refuses(t, "File", api.ErrFull, func(k *kernel.Kernel) (bool, error) {
		n, err := k.File(1, "/new", both, true)
		return n == 0, err
	})
	w.refuses(t, "Pipe", api.ErrFull, func(k *kernel.Kernel) (bool, error) {
		from, into, err := k.Pipe(1)
		return from == 0 && into == 0, err
	})
	b.dups(1, 0, 1) // no entry more
	b.closes(6, 0)
	_, _, err := b.Pipe(1)
	wrong(t, "Pipe with room for one", err, api.ErrFull)
	b.opens(1, "/new", both, 2)
	b.exits(2, 0)
	b.pipes(1, 3, 4)
	b.counts("one ended", 1, api.MaxOpen-6, 11)
}

// MaxNodes is of all, with those that have no name.
func TestAsManyNodesAsThereMayBe(t *testing.T) {
	b := newBox(t, 1)
	for n := 1; n < api.MaxNodes; n++ {
		done(t, "Mkdir", b.Mkdir(1, fmt.Sprint("/d", n)))
	}
	wrong(t, "Mkdir", b.Mkdir(1, "/more"), api.ErrFull)
	_, err := b.File(1, "/more", both, true)
	wrong(t, "File", err, api.ErrFull)
	b.has(1, 0, 0, 0)
	done(t, "Unlink", b.Unlink(1, "/d1"))
	b.opens(1, "/more", both, 0)
	done(t, "Unlink", b.Unlink(1, "/more"))
	wrong(t, "Mkdir", b.Mkdir(1, "/more"), api.ErrFull)
	b.closes(1, 0)
	done(t, "Mkdir", b.Mkdir(1, "/more"))
}

func TestMarkAndClose(t *testing.T) {
	b := newBox(t, 1)
	b.opens(1, "/f", both, 0)
	b.dups(1, 0, 1)
	b.dups(1, 0, 2)
	done(t, "Mark", b.Mark(1, 1, true))
	b.forks(1, 2) // it is marked alike
	done(t, "Mark", b.Mark(2, 0, true))
	done(t, "Exec", b.Exec(1))
	b.numbers(1, 0, 2)
	done(t, "Exec", b.Exec(2))
	b.numbers(2, 2)
	b.closes(1, 0, 2)
	b.counts("the other one has it", 1, 1, 2)
	wrong(t, "Close of one that is free", b.Close(1, 0), api.ErrMissing)
	b.closes(2, 2)
	b.counts("nobody has it", 1, 0, 2)
}
