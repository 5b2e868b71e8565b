package desc_test

import (
	"fmt"
	"slices"
	"testing"

	"almshouse/api"
	"almshouse/desc"
	"almshouse/tree"
)

func TestNewOfNil(t *testing.T) {
	f, err := desc.New(nil)
	wrong(t, "New(nil)", err, api.ErrMissing)
	if f != nil {
		t.Errorf("New(nil): files beside an error")
	}
}

func TestAtFirstNothingIsOpen(t *testing.T) {
	w := newWorld(t)
	var x desc.Table
	w.has(t, "zero value", &x)
	if l := w.marked(&x); l != nil {
		t.Errorf("zero value: %v are marked", l)
	}
	for n := range api.MaxFds {
		w.refusesAll(t, &x, n)
	}
	w.counts(t, "zero value", 0, 5)
	w.has(t, "zero value, asked", &x)
}

// full is a table whose numbers are of entries of their own: files that are opened once each.
func (w *world) full(t *testing.T) *desc.Table {
	t.Helper()
	x := &desc.Table{}
	for n := range api.MaxFds {
		if got := w.opens(t, x, "/f", both); got != n {
			t.Fatalf("File: %d: want %d", got, n)
		}
	}
	return x
}

// eachFree goes through tables in which just some numbers are free: all sets of them.
func eachFree(t *testing.T, do func(w *world, x *desc.Table, free, used []int)) {
	t.Helper()
	for set := range 1 << api.MaxFds {
		w := newWorld(t)
		x := w.full(t)
		var free, used []int
		for n := range api.MaxFds {
			if set>>n&1 == 0 {
				used = append(used, n)
				continue
			}
			free = append(free, n)
			w.closes(t, x, n)
		}
		w.has(t, "with some free", x, used...)
		w.counts(t, "with some free", len(used), 5)
		w.heldJust(t, 2, len(used))
		do(w, x, free, used)
		if t.Failed() {
			t.Fatalf("free were %v", free)
		}
	}
}

func TestTheLeastFreeNumberOfFile(t *testing.T) {
	eachFree(t, func(w *world, x *desc.Table, free, used []int) {
		if len(free) == 0 {
			w.refusesFile(t, x, "/f", both, true, api.ErrFull)
			w.refusesFile(t, x, "/new", both, true, api.ErrFull)
			w.counts(t, "refused", len(used), 5)
			return
		}
		if n := w.opens(t, x, "/g", api.Reads); n != free[0] {
			t.Errorf("File: %d: want %d", n, free[0])
		}
		w.reads(t, x, free[0], whole, "abc")
		w.has(t, "one more", x, append(used, free[0])...)
	})
}

func TestTheLeastFreeNumberOfDup(t *testing.T) {
	eachFree(t, func(w *world, x *desc.Table, free, used []int) {
		for i, n := range used {
			w.seeks(t, x, n, i)
		}
		if len(free) == 0 {
			for _, n := range used {
				w.refusesDup(t, x, n, api.ErrFull)
			}
			return
		}
		for _, n := range free {
			w.refusesAll(t, x, n)
		}
		for i, n := range used {
			if to := w.dups(t, x, n); to != free[0] {
				t.Errorf("Dup(%d): %d: want %d", n, to, free[0])
			}
			w.has(t, "one more", x, append(slices.Clone(used), free[0])...)
			w.reads(t, x, free[0], 1, string([]byte{byte('0' + i)}))
			w.closes(t, x, free[0])
			w.counts(t, "closed", len(used), 5)
		}
	})
}

func TestTheLeastFreeNumbersOfPipe(t *testing.T) {
	eachFree(t, func(w *world, x *desc.Table, free, used []int) {
		if len(free) < 2 {
			w.refusesPipe(t, x, api.ErrFull)
			w.has(t, "refused", x, used...)
			w.counts(t, "refused", len(used), 5)
			return
		}
		if from, into := w.pipes(t, x); from != free[0] || into != free[1] {
			t.Errorf("Pipe: %d, %d: want %d, %d", from, into, free[0], free[1])
		}
		w.writes(t, x, free[1], "hello", 5)
		w.reads(t, x, free[0], whole, "hello")
	})
}

// An entry is held once, however many numbers are of it; each one that is opened holds once more.
func TestAnEntryHoldsItsFileOnce(t *testing.T) {
	w := newWorld(t)
	var x desc.Table
	w.heldJust(t, 2, 0)
	n := w.opens(t, &x, "/f", api.Reads)
	w.heldJust(t, 2, 1)
	w.dups(t, &x, n)
	w.dups2(t, &x, n, 5)
	u := w.f.Fork(&x)
	w.heldJust(t, 2, 1)
	w.opens(t, u, "/f", api.Writes)
	w.heldJust(t, 2, 2)
	w.opens(t, &x, "/f", api.Reads)
	w.heldJust(t, 2, 3)
	w.counts(t, "opened three times", 3, 5)
	w.f.Clear(&x)
	w.heldJust(t, 2, 2)
	w.f.Clear(u)
	w.heldJust(t, 2, 0)
	w.counts(t, "cleared", 0, 5)
}

// One file has four numbers in two tables, closed in any order: it stays until the last one is.
func TestAFileStaysWhileItIsOpen(t *testing.T) {
	for order := range 24 {
		w := newWorld(t)
		x := &desc.Table{}
		n := w.opens(t, x, "/f", both)
		to := w.dups(t, x, n)
		u := w.f.Fork(x)
		w.unlinks(t, "/f")
		left := []func(){
			func() { w.closes(t, x, n) }, func() { w.closes(t, x, to) },
			func() { w.closes(t, u, n) }, func() { w.closes(t, u, to) },
		}
		for code := order; len(left) > 0; code /= len(left) + 1 {
			w.counts(t, "some are left", 1, 5)
			w.holds(t, 2, "0123456789")
			i := code % len(left)
			left[i]()
			left = slices.Delete(left, i, i+1)
		}
		w.counts(t, "none is left", 0, 4)
		if _, err := w.r.Size(2); api.Tell(err) != api.ErrMissing {
			t.Errorf("the node is there: %v", err)
		}
	}
}

func TestAFileWithoutNamesIsUsedAsBefore(t *testing.T) {
	w := newWorld(t)
	var x, y desc.Table
	n := w.opens(t, &x, "/f", both)
	w.reads(t, &x, n, 3, "012")
	w.unlinks(t, "/f")
	w.reads(t, &x, n, 3, "345")
	w.writes(t, &x, n, "new", 3)
	w.seeks(t, &x, n, 0)
	w.reads(t, &x, n, whole, "012345new9")
	w.refusesFile(t, &y, "/f", both, false, api.ErrMissing)
	m, err := w.f.File(&y, "/f", both, true) // another file, of the same name
	done(t, "File", err)
	w.counts(t, "made anew", 2, 6)
	w.reads(t, &y, m, whole, "")
	w.writes(t, &y, m, "other", 5)
	w.closes(t, &x, n)
	w.counts(t, "the old one is gone", 1, 5)
	w.seeks(t, &y, m, 0)
	w.reads(t, &y, m, whole, "other")
	w.closes(t, &y, m)
	w.counts(t, "it has a name", 0, 5)
}

// fills opens so many entries, in tables of their own.
func (w *world) fills(t *testing.T, many int) []*desc.Table {
	t.Helper()
	var tables []*desc.Table
	for i := range many {
		if i%api.MaxFds == 0 {
			tables = append(tables, &desc.Table{})
		}
		w.opens(t, tables[len(tables)-1], "/g", api.Reads)
	}
	return tables
}

func TestAsManyEntriesAsThereMayBe(t *testing.T) {
	w := newWorld(t)
	tables := w.fills(t, api.MaxOpen)
	var x desc.Table
	for _, path := range []string{"/f", "/new", "/d", "/no/x", "", "/f/x"} {
		for _, makes := range []bool{false, true} {
			w.refusesFile(t, &x, path, both, makes, api.ErrFull)
			w.refusesFile(t, &x, path, 0, makes, api.ErrArg)
		}
	}
	w.refusesPipe(t, &x, api.ErrFull)
	w.has(t, "refused", &x)
	w.counts(t, "refused", api.MaxOpen, 5)
	u := w.f.Fork(tables[0]) // no entry more
	w.closes(t, u, 3)
	w.dups(t, u, 4)
	w.dups2(t, u, 4, 5)
	w.counts(t, "numbers are no entries", api.MaxOpen, 5)
	w.closes(t, tables[0], 3) // the last number of its entry
	w.counts(t, "one less", api.MaxOpen-1, 5)
	w.refusesPipe(t, &x, api.ErrFull)
	w.opens(t, &x, "/f", both)
	w.refusesFile(t, &x, "/f", both, false, api.ErrFull)
	w.closes(t, tables[1], 0)
	w.closes(t, tables[2], 7)
	w.pipes(t, &x)
	w.refusesFile(t, &x, "/f", both, false, api.ErrFull)
	w.counts(t, "full again", api.MaxOpen, 5)
	for _, y := range append(tables, u, &x) {
		w.f.Clear(y)
	}
	w.counts(t, "cleared", 0, 5)
	w.heldJust(t, 3, 0)
	w.fills(t, api.MaxOpen)
}

func TestRoomForAPipeAmongEntries(t *testing.T) {
	for open := api.MaxOpen - 3; open <= api.MaxOpen; open++ {
		w := newWorld(t)
		w.fills(t, open)
		var x desc.Table
		if open <= api.MaxOpen-2 {
			w.pipes(t, &x)
			continue
		}
		w.refusesPipe(t, &x, api.ErrFull)
		w.counts(t, "refused", open, 5)
		w.has(t, "refused", &x)
	}
}

func TestFileIsForWhatItIsOpened(t *testing.T) {
	for prot := api.Reads; prot <= both; prot++ {
		for _, makes := range []bool{false, true} {
			w := newWorld(t)
			var x desc.Table
			n, err := w.f.File(&x, "/f", prot, makes)
			done(t, "File", err)
			u := w.f.Fork(&x)
			for _, m := range []int{n, w.dups(t, &x, n)} {
				if prot&api.Reads != 0 {
					w.seeks(t, &x, m, 1)
					w.reads(t, &x, m, 2, "12")
				} else {
					w.refusesRead(t, &x, m, 2, api.ErrFalse)
					w.refusesRead(t, u, n, 0, api.ErrFalse)
				}
				if prot&api.Writes != 0 {
					w.seeks(t, u, n, 9)
					w.writes(t, &x, m, "9", 1)
				} else {
					w.refusesWrite(t, &x, m, "9", most, api.ErrFalse)
					w.refusesWrite(t, u, n, "", most, api.ErrFalse)
				}
			}
			w.holds(t, 2, "0123456789")
			w.counts(t, "opened", 1, 5)
		}
	}
}

func TestFileOfNoUse(t *testing.T) {
	w, x, u := some(t)
	was := w.seen(t, 2, x, u)
	for _, prot := range noUses {
		for _, makes := range []bool{false, true} {
			for _, path := range []string{"/f", "/new", "/d", "/", "", "f", "/no/x", "/f/x"} {
				w.refusesFile(t, x, path, prot, makes, api.ErrArg)
			}
		}
	}
	if s := w.seen(t, 2, x, u); s != was {
		t.Errorf("refused, but: %s\nbefore: %s", s, was)
	}
}

func TestFileThatIsMade(t *testing.T) {
	w := newWorld(t)
	var x desc.Table
	w.refusesFile(t, &x, "/new", both, false, api.ErrMissing)
	w.counts(t, "not made", 0, 5)
	n, err := w.f.File(&x, "/new", both, true)
	done(t, "File", err)
	w.counts(t, "made", 1, 6)
	w.heldJust(t, 5, 1)
	w.writes(t, &x, n, "hello", 5)
	w.holds(t, 5, "hello")
	for _, makes := range []bool{false, true} { // it is there: nothing is made, or cut
		m, err := w.f.File(&x, "/new", both, makes)
		done(t, "File", err)
		w.reads(t, &x, m, 2, "he")
	}
	w.counts(t, "opened again", 3, 6)
	m, err := w.f.File(&x, "/d/new", api.Writes, true)
	done(t, "File", err)
	w.counts(t, "made in a directory", 4, 7)
	w.writes(t, &x, m, "there", 5)
	if node, err := w.r.Find("/d/new"); node != 6 || err != nil {
		t.Errorf("Find: %d, %v: want 6", node, err)
	}
	w.holds(t, 6, "there")
	w.f.Clear(&x)
	w.counts(t, "they have names", 0, 7)
	w.heldJust(t, 5, 0)
}

func TestPathsThatAreRefused(t *testing.T) {
	w, x, u := some(t)
	was := w.seen(t, 2, x, u)
	refuses := func(path string, want, makes api.Errno) {
		t.Helper()
		for prot := api.Reads; prot <= both; prot++ {
			w.refusesFile(t, x, path, prot, false, want)
			w.refusesFile(t, x, path, prot, true, makes)
		}
	}
	for _, path := range []string{"", "f", "//", "/f/", "/new/", "/.", "/..", "/d/..", "/d/./f", "/new//x", "/abcdefghijklm", "/no/abcdefghijklm", "/f/"} {
		refuses(path, api.ErrArg, api.ErrArg)
	}
	for _, path := range []string{"/f/x", "/d/h/x", "/f/no/x", "/", "/d"} { // through a file; a directory
		refuses(path, api.ErrState, api.ErrState)
	}
	for _, path := range []string{"/no/x", "/d/no/x", "/no/x/y"} { // there is no directory for it
		refuses(path, api.ErrMissing, api.ErrMissing)
	}
	w.refusesFile(t, x, "/new", both, false, api.ErrMissing)
	w.refusesFile(t, x, "/d/new", both, false, api.ErrMissing)
	if s := w.seen(t, 2, x, u); s != was {
		t.Errorf("refused, but: %s\nbefore: %s", s, was)
	}
}

func TestFileInAFullTree(t *testing.T) {
	w := newWorld(t)
	var x desc.Table
	for w.r.Nodes() < api.MaxNodes {
		_, err := w.r.Create(fmt.Sprint("/n", w.r.Nodes()))
		done(t, "Create", err)
	}
	w.refusesFile(t, &x, "/new", both, true, api.ErrFull)
	w.refusesFile(t, &x, "/new", both, false, api.ErrMissing)
	w.refusesFile(t, &x, "/no/new", both, true, api.ErrMissing)
	w.counts(t, "refused", 0, api.MaxNodes)
	w.has(t, "refused", &x)
	n, err := w.f.File(&x, "/f", both, true)
	done(t, "File", err)
	w.unlinks(t, "/f") // it is open, and stays
	w.refusesFile(t, &x, "/new", both, true, api.ErrFull)
	w.closes(t, &x, n)
	w.counts(t, "closed", 0, api.MaxNodes-1)
	_, err = w.f.File(&x, "/new", both, true)
	done(t, "File", err)
	w.counts(t, "made", 1, api.MaxNodes)
}

// A table that is full tells so behind what is wrong with prot, and ahead of what is wrong with a path.
func TestFileOfAFullTable(t *testing.T) {
	w := newWorld(t)
	x := w.full(t)
	for _, path := range []string{"/f", "/new", "/d", "", "/no/x", "/f/x"} {
		w.refusesFile(t, x, path, 0, true, api.ErrArg)
		w.refusesFile(t, x, path, both, true, api.ErrFull)
		w.refusesFile(t, x, path, both, false, api.ErrFull)
	}
	w.counts(t, "refused", api.MaxFds, 5)
	w.heldJust(t, 2, api.MaxFds)
	w.heldJust(t, 3, 0)
}

func TestDup2OntoFreeNumbers(t *testing.T) {
	for n := range api.MaxFds {
		for to := range api.MaxFds {
			w := newWorld(t)
			x := w.full(t)
			for m := range api.MaxFds {
				if m != n {
					w.closes(t, x, m)
				}
			}
			w.seeks(t, x, n, 3)
			w.dups2(t, x, n, to)
			w.counts(t, "the same entry", 1, 5)
			w.heldJust(t, 2, 1)
			if n == to {
				w.has(t, "itself", x, n)
				continue
			}
			w.has(t, "both", x, n, to)
			w.reads(t, x, to, 2, "34")
			w.reads(t, x, n, 1, "5")
			w.closes(t, x, n)
			w.counts(t, "one is left", 1, 5)
			w.reads(t, x, to, 1, "6")
			w.closes(t, x, to)
			w.counts(t, "none is left", 0, 5)
		}
	}
}

func TestDup2OntoItself(t *testing.T) {
	w, x, u := some(t)
	was := w.seen(t, 2, x, u)
	for n := range 6 {
		w.dups2(t, x, n, n) // those that are MARKED stay so
	}
	if s := w.seen(t, 2, x, u); s != was {
		t.Errorf("onto itself: %s\nbefore: %s", s, was)
	}
	w.heldJust(t, 2, 1)
	w.heldJust(t, 3, 2)
}

func TestDup2OntoTheOtherNumberOfItsEntry(t *testing.T) {
	w := newWorld(t)
	var x desc.Table
	n := w.opens(t, &x, "/f", both)
	to := w.dups(t, &x, n)
	w.unlinks(t, "/f")
	w.marks(t, &x, n, true)
	w.marks(t, &x, to, true)
	for range 3 {
		w.dups2(t, &x, n, to)
		w.counts(t, "onto the same entry", 1, 5)
		w.has(t, "onto the same entry", &x, n, to)
	}
	if l := w.marked(&x); !slices.Equal(l, []int{n}) {
		t.Errorf("marked are %v: want just %d", l, n)
	}
	w.closes(t, &x, n)
	w.counts(t, "one is left", 1, 5)
	w.reads(t, &x, to, 2, "01")
	w.closes(t, &x, to)
	w.counts(t, "none is left", 0, 4)
}

func TestDup2OntoTheLastNumberOfAnother(t *testing.T) {
	w := newWorld(t)
	var x desc.Table
	f, g := w.opens(t, &x, "/f", both), w.opens(t, &x, "/g", both)
	w.unlinks(t, "/g")
	w.marks(t, &x, g, true)
	w.dups2(t, &x, f, g)
	w.counts(t, "the file without names is gone", 1, 4)
	w.reads(t, &x, g, 2, "01")
	w.reads(t, &x, f, 2, "23")
	if l := w.marked(&x); l != nil {
		t.Errorf("marked are %v: want none", l)
	}
	h := w.opens(t, &x, "/d/h", both)
	u := w.f.Fork(&x)
	w.unlinks(t, "/d/h")
	w.dups2(t, &x, f, h) // the fork has it
	w.counts(t, "another table has it", 2, 4)
	w.dups2(t, u, f, h)
	w.counts(t, "none has it", 1, 3)
	w.heldJust(t, 2, 1)
}

func TestDup2OntoEndsOfPipes(t *testing.T) {
	w := newWorld(t)
	var x desc.Table
	from, into := w.pipes(t, &x)
	w.writes(t, &x, into, "ab", 2)
	w.dups2(t, &x, from, into) // no Into is open any more
	w.counts(t, "From alone", 1, 5)
	w.refusesWrite(t, &x, into, "x", most, api.ErrFalse)
	w.reads(t, &x, into, 1, "a")
	w.reads(t, &x, from, whole, "b")
	w.reads(t, &x, from, 1, "")
	w.closes(t, &x, from)
	w.closes(t, &x, into)
	w.counts(t, "closed", 0, 5)
	from, into = w.pipes(t, &x)
	w.dups2(t, &x, into, from) // no From is open any more
	w.counts(t, "Into alone", 1, 5)
	w.refusesWrite(t, &x, into, "x", most, api.ErrDevice)
	w.refusesWrite(t, &x, from, "", most, api.ErrDevice)
	w.refusesRead(t, &x, from, 1, api.ErrFalse)
}

func TestDup2OntoWhatIsNoNumber(t *testing.T) {
	w, x, u := some(t)
	was := w.seen(t, 2, x, u)
	for _, to := range noNumbers {
		for n := range 6 {
			w.refusesDup2(t, x, n, to, api.ErrRange)
		}
		for _, n := range append([]int{6, 7}, noNumbers...) { // this is told first, also if both are the same
			w.refusesDup2(t, x, n, to, api.ErrMissing)
		}
	}
	if s := w.seen(t, 2, x, u); s != was {
		t.Errorf("refused, but: %s\nbefore: %s", s, was)
	}
}

func TestNumbersThatAreFree(t *testing.T) {
	w, x, u := some(t)
	was := w.seen(t, 2, x, u)
	for _, n := range append([]int{6, 7}, noNumbers...) {
		w.refusesAll(t, x, n)
		w.refusesAll(t, u, n)
	}
	if s := w.seen(t, 2, x, u); s != was {
		t.Errorf("refused, but: %s\nbefore: %s", s, was)
	}
	y := w.full(t) // in a full table, too
	for _, n := range noNumbers {
		w.refusesAll(t, y, n)
	}
}

func TestNumbersAreClosedInAnyOrder(t *testing.T) {
	for turn := range api.MaxFds {
		for _, step := range []int{1, 3, 5, 7} {
			w := newWorld(t)
			x := w.full(t)
			left := api.MaxFds
			for i := range api.MaxFds {
				n := (turn + i*step) % api.MaxFds
				w.closes(t, x, n)
				left--
				w.counts(t, "closed", left, 5)
				w.heldJust(t, 2, left)
				w.refusesAll(t, x, n)
				w.counts(t, "closed once more", left, 5)
			}
			w.has(t, "closed", x)
		}
	}
}

func TestMarksAreOfNumbers(t *testing.T) {
	w := newWorld(t)
	var x desc.Table
	n := w.opens(t, &x, "/f", both)
	w.marks(t, &x, n, true)
	w.marks(t, &x, n, true)
	to := w.dups(t, &x, n)
	w.dups2(t, &x, n, 6)
	if l := w.marked(&x); !slices.Equal(l, []int{n}) {
		t.Errorf("marked are %v: want just %d", l, n)
	}
	w.marks(t, &x, to, true)
	w.marks(t, &x, n, false)
	w.marks(t, &x, n, false)
	if l := w.marked(&x); !slices.Equal(l, []int{to}) {
		t.Errorf("marked are %v: want just %d", l, to)
	}
	w.f.Exec(&x)
	w.has(t, "behind Exec", &x, n, 6)
	w.counts(t, "behind Exec", 1, 5)
}

// A number that was MARKED, and is free, is not when it is given again, in whatever way it was freed and is given.
func TestANumberThatIsGivenAgainIsNotMarked(t *testing.T) {
	frees := []func(w *world, x *desc.Table){
		func(w *world, x *desc.Table) { w.closes(t, x, 0); w.closes(t, x, 1) },
		func(w *world, x *desc.Table) { w.f.Exec(x) },
		func(w *world, x *desc.Table) { w.f.Clear(x); w.f.Clear(x) },
	}
	gives := []func(w *world, x *desc.Table){
		func(w *world, x *desc.Table) { w.opens(t, x, "/g", both); w.opens(t, x, "/g", both) },
		func(w *world, x *desc.Table) { w.pipes(t, x) },
		func(w *world, x *desc.Table) { w.opens(t, x, "/g", both); w.dups(t, x, 0) },
		func(w *world, x *desc.Table) { w.opens(t, x, "/g", both); w.dups2(t, x, 0, 1) },
	}
	for i, free := range frees {
		for j, give := range gives {
			w := newWorld(t)
			x := &desc.Table{}
			w.opens(t, x, "/f", both)
			w.opens(t, x, "/f", both)
			w.marks(t, x, 0, true)
			w.marks(t, x, 1, true)
			free(w, x)
			w.has(t, "freed", x)
			give(w, x)
			w.f.Exec(x)
			if !w.f.Has(x, 0) || !w.f.Has(x, 1) {
				t.Errorf("freed by %d, given by %d: it is MARKED", i, j)
			}
			w.has(t, "given again", x, 0, 1)
		}
	}
}

// Two trees, and two that lie over one tree, have what is open each for itself.
func TestFilesAreApart(t *testing.T) {
	w := newWorld(t)
	f, err := desc.New(w.r)
	done(t, "New", err)
	v := &world{r: w.r, f: f}
	var x, y desc.Table
	n := w.opens(t, &x, "/f", both)
	w.counts(t, "one", 1, 5)
	v.counts(t, "another one", 0, 5)
	m := v.opens(t, &y, "/f", both)
	w.heldJust(t, 2, 2)
	w.writes(t, &x, n, "xx", 2)
	v.reads(t, &y, m, 4, "xx23")
	w.closes(t, &x, n)
	w.heldJust(t, 2, 1)
	v.fills(t, api.MaxOpen-1)
	w.opens(t, &x, "/f", both)
	other := newWorld(t)
	other.opens(t, &desc.Table{}, "/f", both)
	other.holds(t, 2, "0123456789")
}

// Nothing of this is promised, but that no call panics.
func TestNothingPanics(t *testing.T) {
	w := newWorld(t)
	x := w.full(t)
	var none *desc.Files
	empty, err := desc.New(&tree.Tree{})
	done(t, "New", err)
	for _, f := range []*desc.Files{none, {}, empty, w.f} {
		copied := *x
		for _, y := range []*desc.Table{nil, {}, &copied} {
			_, _, _ = f.Open(), y.Used(), f.Has(y, 0)
			for range 2 {
				_, _ = f.File(y, "/f", both, true)
				_, _, _ = f.Pipe(y)
				for n := range api.MaxFds {
					_, _ = f.Dup(y, n)
					_, _, _ = f.Dup2(y, n, 1), f.Mark(y, n, true), f.Seek(y, n, 0)
					_, _ = f.Read(y, n, 1)
					_, _ = f.Write(y, n, "s", most)
					_ = f.Close(y, n)
				}
				z := f.Fork(y)
				f.Exec(y)
				f.Clear(y)
				f.Exec(z)
				f.Clear(z)
			}
		}
	}
	w.f.Clear(x)
}
