package vm_test

import (
	"math"
	"testing"

	"almshouse/api"
	"almshouse/plain"
	"almshouse/vm"
)

const (
	both = api.Reads + api.Writes
	last = api.MaxPages - 1 // the last page
	end  = api.Words - 1    // the last word
)

var (
	wrongFrames = []int{math.MinInt, -api.MaxFrames, -1, 0, api.MaxFrames + 1, 2 * api.MaxFrames, math.MaxInt}
	wrongProts  = []int{math.MinInt, -3, -2, -1, 0, 4, 5, 6, 7, 8, 256 + 1, math.MaxInt}
	wrongWords  = []int{math.MinInt, -api.Words, -1, api.Words, api.Words + 1, api.Words * 2, math.MaxInt}
	wrongPages  = []int{math.MinInt, -api.MaxPages, -1, api.MaxPages, api.MaxPages + 1, math.MaxInt}
)

// wrongSpans are ats and ns such that there are no n pages from at on.
var wrongSpans = [][2]int{
	{0, 0}, {5, 0}, {last, 0}, {api.MaxPages, 0}, {-1, 0},
	{0, -1}, {5, -1}, {last, -last}, {api.MaxPages, -1}, {0, math.MinInt}, {last, math.MinInt},
	{-1, 1}, {-1, 2}, {-1, api.MaxPages}, {-5, 6}, {-api.MaxPages, api.MaxPages}, {math.MinInt, 1},
	{0, api.MaxPages + 1}, {1, api.MaxPages}, {last, 2}, {api.MaxPages / 2, api.MaxPages/2 + 1},
	{api.MaxPages, 1}, {api.MaxPages + 1, 1},
	{math.MaxInt, 1}, {1, math.MaxInt}, {math.MaxInt, math.MaxInt}, {math.MaxInt - 1, 2}, {0, math.MaxInt},
	{math.MinInt, math.MinInt}, {math.MinInt, math.MaxInt}, {math.MaxInt, math.MinInt}, {-1, math.MaxInt}, {math.MaxInt, -1},
	{math.MinInt + 3, math.MinInt}, {math.MaxInt, -math.MaxInt + 1}, {math.MinInt, -1},
}

func store(t *testing.T, n int) *vm.Store {
	t.Helper()
	st, err := vm.NewStore(n)
	if err != nil || st == nil {
		t.Fatalf("NewStore(%d): %v, %v: want a store", n, st, err)
	}
	return st
}

func made(t *testing.T, st *vm.Store) *vm.Space {
	t.Helper()
	s, err := vm.New(st)
	if err != nil || s == nil {
		t.Fatalf("New: %v, %v: want a space", s, err)
	}
	return s
}

// over is a space over a store of its own.
func over(t *testing.T, frames int) (*vm.Store, *vm.Space) {
	t.Helper()
	st := store(t, frames)
	return st, made(t, st)
}

func forks(t *testing.T, s *vm.Space) *vm.Space {
	t.Helper()
	f := s.Fork()
	if f == nil || f == s {
		t.Fatalf("Fork: want a space of its own")
	}
	return f
}

func done(t *testing.T, what string, err error) {
	t.Helper()
	if err != nil {
		t.Fatalf("%s: %v: want no error", what, err)
	}
}

func wrong(t *testing.T, what string, err error, want api.Errno) {
	t.Helper()
	if e, place := plain.Place(err); e != want || place != -1 {
		t.Errorf("%s: error %d at %d: want %d, without a place", what, e, place, want)
	}
}

func is(t *testing.T, what string, s *vm.Space, st *vm.Store, pages, resident, left int) {
	t.Helper()
	if s.Len() != pages || s.Resident() != resident || st.Left() != left {
		t.Errorf("%s: %d pages, %d with a frame, %d left: want %d, %d, %d", what,
			s.Len(), s.Resident(), st.Left(), pages, resident, left)
	}
}

func loads(t *testing.T, s *vm.Space, at, w int, want int64) {
	t.Helper()
	if v, err := s.Load(at, w); err != nil || v != want {
		t.Errorf("Load(%d, %d): %d, %v: want %d", at, w, v, err, want)
	}
}

// words tells all words of a page.
func words(t *testing.T, s *vm.Space, at int, want [api.Words]int64) {
	t.Helper()
	for w, v := range want {
		loads(t, s, at, w, v)
	}
}

func stores(t *testing.T, s *vm.Space, at, w int, v int64) {
	t.Helper()
	if err := s.Store(at, w, v); err != nil {
		t.Fatalf("Store(%d, %d, %d): %v: want no error", at, w, v, err)
	}
}

// view is all that can be asked of a space without changing it.
type view struct {
	pages, resident, left int
	words                 [api.MaxPages][api.Words]int64
	errs                  [api.MaxPages]api.Errno
}

func seen(s *vm.Space, st *vm.Store) view {
	v := view{pages: s.Len(), resident: s.Resident(), left: st.Left()}
	for at := range v.words {
		for w := range v.words[at] {
			word, err := s.Load(at, w)
			v.words[at][w], v.errs[at] = word, api.Tell(err)
		}
	}
	return v
}

// refuses tells that what is asked is wrong, and changes nothing.
func refuses(t *testing.T, what string, s *vm.Space, st *vm.Store, want api.Errno, ask func() error) {
	t.Helper()
	before := seen(s, st)
	wrong(t, what, ask(), want)
	if seen(s, st) != before {
		t.Errorf("%s: it was refused, and changed something", what)
	}
}

func refusesMap(t *testing.T, s *vm.Space, st *vm.Store, at, n, prot int, want api.Errno) {
	t.Helper()
	refuses(t, "Map", s, st, want, func() error { return s.Map(at, n, prot) })
}

func refusesUnmap(t *testing.T, s *vm.Space, st *vm.Store, at, n int, want api.Errno) {
	t.Helper()
	refuses(t, "Unmap", s, st, want, func() error { return s.Unmap(at, n) })
}

func refusesProtect(t *testing.T, s *vm.Space, st *vm.Store, at, n, prot int, want api.Errno) {
	t.Helper()
	refuses(t, "Protect", s, st, want, func() error { return s.Protect(at, n, prot) })
}

func refusesLoad(t *testing.T, s *vm.Space, st *vm.Store, at, w int, want api.Errno) {
	t.Helper()
	refuses(t, "Load", s, st, want, func() error {
		v, err := s.Load(at, w)
		if v != 0 {
			t.Errorf("Load(%d, %d): %d beside an error", at, w, v)
		}
		return err
	})
}

func refusesStore(t *testing.T, s *vm.Space, st *vm.Store, at, w int, v int64, want api.Errno) {
	t.Helper()
	refuses(t, "Store", s, st, want, func() error { return s.Store(at, w, v) })
}

// fills writes pages until none of the store's frames is free.
func fills(t *testing.T, st *vm.Store) *vm.Space {
	t.Helper()
	s := made(t, st)
	for at := 0; st.Left() > 0; at++ {
		done(t, "Map", s.Map(at, 1, both))
		stores(t, s, at, 0, 1)
	}
	return s
}

// 5.1: stores and spaces.

func TestANewStoreHasAllFramesFree(t *testing.T) {
	for _, n := range []int{1, 2, 3, 5, 63, 64, 100, api.MaxFrames - 1, api.MaxFrames} {
		st, s := over(t, n)
		is(t, "a new space", s, st, 0, 0, n)
	}
}

func TestNewStoreRefusesWrongNumbers(t *testing.T) {
	for _, n := range wrongFrames {
		st, err := vm.NewStore(n)
		wrong(t, "NewStore", err, api.ErrRange)
		if st != nil {
			t.Errorf("NewStore(%d): a store beside an error", n)
		}
	}
}

func TestNewOfNoStore(t *testing.T) {
	s, err := vm.New(nil)
	wrong(t, "New", err, api.ErrMissing)
	if s != nil {
		t.Error("New(nil): a space beside an error")
	}
	refused, _ := vm.NewStore(0)
	_, err = vm.New(refused)
	wrong(t, "New of what NewStore refused", err, api.ErrMissing)
}

func TestANewSpaceHasNoPages(t *testing.T) {
	st, s := over(t, 1)
	for at := range api.MaxPages {
		refusesLoad(t, s, st, at, 0, api.ErrMissing)
		refusesStore(t, s, st, at, 0, 1, api.ErrMissing)
		refusesUnmap(t, s, st, at, 1, api.ErrMissing)
		refusesProtect(t, s, st, at, 1, both, api.ErrMissing)
	}
	s.Clear()
	is(t, "cleared", s, st, 0, 0, 1)
}

func TestAllFramesCanBeHad(t *testing.T) {
	st := store(t, api.MaxFrames)
	var all []*vm.Space
	for range api.MaxFrames / api.MaxPages {
		all = append(all, made(t, st))
	}
	for i, s := range all {
		done(t, "Map", s.Map(0, api.MaxPages, both))
		for at := range api.MaxPages {
			stores(t, s, at, at%api.Words, int64(i*1000+at))
			is(t, "one more", s, st, api.MaxPages, at+1, api.MaxFrames-i*api.MaxPages-at-1)
		}
	}
	for i, s := range all {
		for at := range api.MaxPages {
			want := [api.Words]int64{}
			want[at%api.Words] = int64(i*1000 + at)
			words(t, s, at, want)
		}
	}
	s := made(t, st)
	done(t, "Map", s.Map(0, 1, both))
	refusesStore(t, s, st, 0, 0, 1, api.ErrFull)
}

// 5.2: pages.

func TestAPageIsZeroUntilItIsWritten(t *testing.T) {
	st, s := over(t, 4)
	done(t, "Map", s.Map(2, 3, both))
	is(t, "mapped", s, st, 3, 0, 4)
	for at := 2; at < 5; at++ {
		words(t, s, at, [api.Words]int64{})
	}
	is(t, "read", s, st, 3, 0, 4) // who reads needs no frame
	refusesLoad(t, s, st, 1, 0, api.ErrMissing)
	refusesLoad(t, s, st, 5, 0, api.ErrMissing)
}

func TestAWordIsWhatWasWritten(t *testing.T) {
	st, s := over(t, 2)
	done(t, "Map", s.Map(0, 3, both))
	stores(t, s, 1, 0, math.MinInt64)
	is(t, "one is written", s, st, 3, 1, 1)
	words(t, s, 1, [api.Words]int64{0: math.MinInt64})
	stores(t, s, 1, end, math.MaxInt64)
	stores(t, s, 1, 3, -1)
	is(t, "written again", s, st, 3, 1, 1) // a page has one frame, however often it is written
	words(t, s, 1, [api.Words]int64{0: math.MinInt64, 3: -1, end: math.MaxInt64})
	stores(t, s, 1, 0, 7)
	stores(t, s, 2, 0, 8)
	is(t, "two are written", s, st, 3, 2, 0)
	words(t, s, 0, [api.Words]int64{})
	words(t, s, 1, [api.Words]int64{0: 7, 3: -1, end: math.MaxInt64})
	words(t, s, 2, [api.Words]int64{0: 8})
}

func TestEachWordOfEachPageIsItsOwn(t *testing.T) {
	_, s := over(t, api.MaxPages)
	done(t, "Map", s.Map(0, api.MaxPages, both))
	for at := range api.MaxPages {
		for w := range api.Words {
			stores(t, s, at, w, int64(at*100+w+1))
		}
	}
	for at := range api.MaxPages {
		for w := range api.Words {
			loads(t, s, at, w, int64(at*100+w+1))
		}
	}
}

// A frame is taken by who writes, also where the word was so before.
func TestZeroThatIsWrittenTakesAFrame(t *testing.T) {
	st, s := over(t, 2)
	done(t, "Map", s.Map(0, 2, both))
	stores(t, s, 0, 0, 0)
	is(t, "0 is written", s, st, 2, 1, 1)
	f := forks(t, s)
	stores(t, f, 0, 0, 0)
	is(t, "0 is written behind a fork", f, st, 2, 1, 0)
	refusesStore(t, s, st, 1, 0, 0, api.ErrFull)
}

func TestMapAtTheEdges(t *testing.T) {
	for _, p := range [][2]int{{0, 1}, {last, 1}, {0, api.MaxPages}, {1, last}, {0, last}, {api.MaxPages / 2, api.MaxPages / 2}} {
		at, n := p[0], p[1]
		st, s := over(t, 1)
		done(t, "Map", s.Map(at, n, both))
		is(t, "mapped", s, st, n, 0, 1)
		loads(t, s, at, 0, 0)
		loads(t, s, at+n-1, end, 0)
		refusesLoad(t, s, st, at-1, 0, api.ErrMissing)
		refusesLoad(t, s, st, at+n, 0, api.ErrMissing)
		done(t, "Protect", s.Protect(at, n, api.Writes))
		refusesLoad(t, s, st, at, 0, api.ErrFalse)
		refusesLoad(t, s, st, at+n-1, 0, api.ErrFalse)
		stores(t, s, at+n-1, 0, 1)
		is(t, "written", s, st, n, 1, 0)
		done(t, "Unmap", s.Unmap(at, n))
		is(t, "unmapped", s, st, 0, 0, 1)
	}
}

func TestSpansThatAreNot(t *testing.T) {
	st, s := over(t, 2)
	for _, p := range wrongSpans { // of none of these pages is there one
		refusesMap(t, s, st, p[0], p[1], both, api.ErrRange)
		refusesUnmap(t, s, st, p[0], p[1], api.ErrRange)
		refusesProtect(t, s, st, p[0], p[1], both, api.ErrRange)
	}
	done(t, "Map", s.Map(0, api.MaxPages, both))
	stores(t, s, 0, 0, 1)
	stores(t, s, last, 0, 2)
	for _, p := range wrongSpans { // and here all are
		refusesMap(t, s, st, p[0], p[1], both, api.ErrRange)
		refusesUnmap(t, s, st, p[0], p[1], api.ErrRange)
		refusesProtect(t, s, st, p[0], p[1], api.Writes, api.ErrRange)
	}
	is(t, "all are there", s, st, api.MaxPages, 2, 0)
}

func TestUsesThatAreNot(t *testing.T) {
	st, s := over(t, 2)
	done(t, "Map", s.Map(4, 2, both))
	stores(t, s, 4, 0, 5)
	for _, prot := range wrongProts {
		refusesMap(t, s, st, 0, 4, prot, api.ErrArg)
		refusesMap(t, s, st, last, 1, prot, api.ErrArg)
		refusesProtect(t, s, st, 4, 2, prot, api.ErrArg)
	}
	stores(t, s, 5, 0, 6) // it may still be used for both
	loads(t, s, 4, 0, 5)
	loads(t, s, 5, 0, 6)
}

func TestWhatAPageMayBeUsedFor(t *testing.T) {
	for _, prot := range []int{api.Reads, api.Writes, both} {
		st, s := over(t, 2)
		done(t, "Map", s.Map(0, 1, prot))
		mayBeUsed(t, s, st, 0, prot)
		done(t, "Map", s.Map(1, 1, both))
		done(t, "Protect", s.Protect(1, 1, prot))
		mayBeUsed(t, s, st, 1, prot)
	}
}

// mayBeUsed writes and reads a page that is all 0, as far as that may be.
func mayBeUsed(t *testing.T, s *vm.Space, st *vm.Store, at, prot int) {
	t.Helper()
	if prot == api.Reads {
		refusesStore(t, s, st, at, 2, 9, api.ErrFalse)
		loads(t, s, at, 2, 0)
		return
	}
	stores(t, s, at, 2, 9)
	if prot == api.Writes {
		refusesLoad(t, s, st, at, 2, api.ErrFalse)
	} else {
		loads(t, s, at, 2, 9)
	}
}

func TestProtectLeavesTheWordsAndTheFrames(t *testing.T) {
	st, s := over(t, 3)
	done(t, "Map", s.Map(10, 4, both))
	for at := 10; at < 13; at++ {
		stores(t, s, at, 1, int64(at))
	}
	done(t, "Protect", s.Protect(11, 2, api.Writes))
	is(t, "protected", s, st, 4, 3, 0)
	loads(t, s, 10, 1, 10) // those ahead and behind are as they were
	loads(t, s, 13, 1, 0)
	refusesLoad(t, s, st, 11, 1, api.ErrFalse)
	refusesLoad(t, s, st, 12, 1, api.ErrFalse)
	stores(t, s, 11, 0, 5)
	done(t, "Protect", s.Protect(10, 4, api.Reads))
	for at := 10; at < 14; at++ {
		refusesStore(t, s, st, at, 1, 1, api.ErrFalse)
	}
	words(t, s, 10, [api.Words]int64{1: 10})
	words(t, s, 11, [api.Words]int64{0: 5, 1: 11})
	words(t, s, 12, [api.Words]int64{1: 12})
	words(t, s, 13, [api.Words]int64{})
	done(t, "Protect", s.Protect(11, 1, both))
	stores(t, s, 11, 1, 6)
	is(t, "written again", s, st, 4, 3, 0)
	words(t, s, 11, [api.Words]int64{0: 5, 1: 6})
}

func TestMapWhereAPageIs(t *testing.T) {
	st, s := over(t, 1)
	done(t, "Map", s.Map(20, 1, both))
	stores(t, s, 20, 0, 1)
	for _, p := range [][2]int{{20, 1}, {20, 5}, {16, 5}, {18, 5}, {0, api.MaxPages}} { // alone, first, last, in the middle
		refusesMap(t, s, st, p[0], p[1], api.Reads, api.ErrTwice)
	}
	done(t, "Map", s.Map(16, 4, api.Reads)) // both sides are free
	done(t, "Map", s.Map(21, 4, api.Reads))
	is(t, "mapped round it", s, st, 9, 1, 0)
	stores(t, s, 20, 0, 2)
	loads(t, s, 20, 0, 2)
}

func TestUnmapAndProtectWhereAPageIsNot(t *testing.T) {
	st, s := over(t, 10)
	done(t, "Map", s.Map(10, 3, both))
	done(t, "Map", s.Map(14, 3, both))
	for at := 10; at < 17; at++ {
		if at != 13 {
			stores(t, s, at, 0, int64(at))
		}
	}
	for _, p := range [][2]int{{13, 1}, {13, 4}, {10, 4}, {10, 7}, {9, 4}, {14, 4}, {9, 1}, {17, 1}, {0, 1}, {last, 1}, {0, api.MaxPages}} {
		refusesUnmap(t, s, st, p[0], p[1], api.ErrMissing)
		refusesProtect(t, s, st, p[0], p[1], api.Writes, api.ErrMissing)
		refusesProtect(t, s, st, p[0], p[1], api.Reads, api.ErrMissing)
	}
	is(t, "nothing is changed", s, st, 6, 6, 4)
	for at := 10; at < 17; at++ {
		if at != 13 {
			stores(t, s, at, 1, 1) // it may still be written
			loads(t, s, at, 0, int64(at))
		}
	}
	done(t, "Protect", s.Protect(14, 3, api.Reads))
	done(t, "Unmap", s.Unmap(10, 3))
	is(t, "what is there goes", s, st, 3, 3, 7)
}

func TestUnmapInTheMiddle(t *testing.T) {
	st, s := over(t, 5)
	done(t, "Map", s.Map(0, 5, both))
	for at := range 5 {
		stores(t, s, at, at, int64(at+1))
	}
	is(t, "all are written", s, st, 5, 5, 0)
	done(t, "Unmap", s.Unmap(1, 3))
	is(t, "three are gone", s, st, 2, 2, 3)
	for at := 1; at < 4; at++ {
		refusesLoad(t, s, st, at, 0, api.ErrMissing)
		refusesStore(t, s, st, at, 0, 1, api.ErrMissing)
	}
	refusesUnmap(t, s, st, 1, 3, api.ErrMissing)
	words(t, s, 0, [api.Words]int64{0: 1})
	words(t, s, 4, [api.Words]int64{4: 5})
	done(t, "Map", s.Map(1, 3, both))
	is(t, "mapped again", s, st, 5, 2, 3)
	for at := 1; at < 4; at++ {
		words(t, s, at, [api.Words]int64{})
	}
	for at := 1; at < 4; at++ { // a frame that others wrote has no words of theirs
		stores(t, s, at, end, 9)
		words(t, s, at, [api.Words]int64{end: 9})
	}
	is(t, "written again", s, st, 5, 5, 0)
}

func TestUnmapOfPagesWithoutFrames(t *testing.T) {
	st, s := over(t, 2)
	done(t, "Map", s.Map(0, 4, both))
	stores(t, s, 2, 0, 1)
	done(t, "Unmap", s.Unmap(0, 2))
	is(t, "none had a frame", s, st, 2, 1, 1)
	done(t, "Unmap", s.Unmap(2, 2))
	is(t, "one had one", s, st, 0, 0, 2)
}

func TestWordsThatAreNot(t *testing.T) {
	st, s := over(t, 2)
	done(t, "Map", s.Map(0, 2, both))
	stores(t, s, 0, 0, 1)
	for _, w := range wrongWords {
		for at := range 2 { // with a frame, and without
			refusesLoad(t, s, st, at, w, api.ErrRange)
			refusesStore(t, s, st, at, w, 5, api.ErrRange)
		}
	}
	for _, w := range []int{0, end} {
		stores(t, s, 1, w, 7)
		loads(t, s, 1, w, 7)
	}
}

func TestPagesThatAreNot(t *testing.T) {
	st, s := over(t, 2)
	done(t, "Map", s.Map(0, api.MaxPages, both))
	for _, at := range wrongPages {
		refusesLoad(t, s, st, at, 0, api.ErrMissing)
		refusesStore(t, s, st, at, 0, 5, api.ErrMissing)
	}
}

// Where several errors apply, the one that the document tells first is answered.
func TestWhichErrorComesFirst(t *testing.T) {
	st, s := over(t, 1)
	done(t, "Map", s.Map(0, 2, both))
	stores(t, s, 0, 0, 1)
	done(t, "Map", s.Map(2, 1, api.Reads))
	done(t, "Map", s.Map(3, 1, api.Writes))
	for _, prot := range wrongProts {
		refusesMap(t, s, st, 0, 0, prot, api.ErrRange)
		refusesMap(t, s, st, 0, api.MaxPages+1, prot, api.ErrRange)
		refusesMap(t, s, st, 0, 2, prot, api.ErrArg)
		refusesProtect(t, s, st, last, 2, prot, api.ErrRange)
		refusesProtect(t, s, st, 3, 2, prot, api.ErrArg)
	}
	refusesMap(t, s, st, 0, api.MaxPages+1, both, api.ErrRange)
	refusesUnmap(t, s, st, last, 2, api.ErrRange)
	refusesProtect(t, s, st, last, 2, both, api.ErrRange)
	for _, w := range wrongWords {
		refusesLoad(t, s, st, 4, w, api.ErrMissing)
		refusesStore(t, s, st, 4, w, 1, api.ErrMissing)
		refusesLoad(t, s, st, 3, w, api.ErrRange)
		refusesStore(t, s, st, 2, w, 1, api.ErrRange)
		refusesStore(t, s, st, 1, w, 1, api.ErrRange) // no frame is free
	}
	refusesStore(t, s, st, 4, 0, 1, api.ErrMissing)
	refusesStore(t, s, st, 2, 0, 1, api.ErrFalse)
	refusesStore(t, s, st, 1, 0, 1, api.ErrFull)
}

func TestOneFreeFrameAndNone(t *testing.T) {
	st, s := over(t, 2)
	done(t, "Map", s.Map(0, 3, both))
	stores(t, s, 0, 0, 1)
	is(t, "one is free", s, st, 3, 1, 1)
	stores(t, s, 1, 0, 2)
	is(t, "none is", s, st, 3, 2, 0)
	for range 2 {
		refusesStore(t, s, st, 2, 0, 3, api.ErrFull)
		refusesStore(t, s, st, 2, 0, 0, api.ErrFull)
	}
	words(t, s, 2, [api.Words]int64{})
	stores(t, s, 0, 1, 4) // a page whose frame is its own
	stores(t, s, 1, 1, 5)
	is(t, "none is yet", s, st, 3, 2, 0)
	done(t, "Map", s.Map(3, 1, both)) // a page needs no frame
	done(t, "Unmap", s.Unmap(0, 1))
	stores(t, s, 2, 0, 3)
	is(t, "another's frame", s, st, 3, 2, 0)
	words(t, s, 2, [api.Words]int64{0: 3})
	refusesStore(t, s, st, 3, 0, 1, api.ErrFull)
}

// 5.3: what is shared.

func TestForkHasTheSame(t *testing.T) {
	st, s := over(t, 3)
	done(t, "Map", s.Map(0, 1, api.Reads))
	done(t, "Map", s.Map(1, 2, both))
	done(t, "Map", s.Map(last, 1, api.Writes))
	stores(t, s, 1, 3, 7)
	stores(t, s, last, 0, 8)
	f := forks(t, s)
	is(t, "the one", s, st, 4, 2, 1)
	is(t, "the other one", f, st, 4, 2, 1)
	if seen(s, st) != seen(f, st) {
		t.Error("a fork has other words")
	}
	refusesStore(t, f, st, 0, 0, 1, api.ErrFalse)
	refusesLoad(t, f, st, last, 0, api.ErrFalse)
	words(t, f, 1, [api.Words]int64{3: 7})
	stores(t, f, last, 1, 9)
	is(t, "it may be written", f, st, 4, 2, 0)
	done(t, "Protect", f.Protect(last, 1, both))
	words(t, f, last, [api.Words]int64{0: 8, 1: 9})
}

func TestForkOfASpaceWithoutPages(t *testing.T) {
	st, s := over(t, 1)
	f := forks(t, s)
	is(t, "the fork", f, st, 0, 0, 1)
	done(t, "Map", f.Map(0, 1, both))
	stores(t, f, 0, 0, 1)
	is(t, "the fork", f, st, 1, 1, 0)
	is(t, "the first one", s, st, 0, 0, 0)
	refusesLoad(t, s, st, 0, 0, api.ErrMissing)
}

func TestWhoWritesBehindAForkIsNotSeen(t *testing.T) {
	for _, which := range []int{0, 1} {
		st, s := over(t, 3)
		done(t, "Map", s.Map(0, 2, both))
		stores(t, s, 0, 0, 1)
		stores(t, s, 0, 5, 2)
		two := [2]*vm.Space{s, forks(t, s)}
		one, other := two[which], two[1-which]
		stores(t, one, 0, 0, 9)
		is(t, "one has a frame of its own", one, st, 2, 1, 1)
		is(t, "the other one, too", other, st, 2, 1, 1)
		words(t, one, 0, [api.Words]int64{0: 9, 5: 2})
		words(t, other, 0, [api.Words]int64{0: 1, 5: 2})
		stores(t, other, 0, 5, 8)
		is(t, "who writes last keeps the frame", other, st, 2, 1, 1)
		stores(t, one, 0, 5, 7)
		words(t, one, 0, [api.Words]int64{0: 9, 5: 7})
		words(t, other, 0, [api.Words]int64{0: 1, 5: 8})
		stores(t, one, 1, 0, 3) // a page that had no frame is not shared
		is(t, "one has a second frame", one, st, 2, 2, 0)
		words(t, other, 1, [api.Words]int64{})
		refusesStore(t, other, st, 1, 0, 4, api.ErrFull)
		is(t, "the other one has not", other, st, 2, 1, 0)
	}
}

func TestWhatIsMappedBehindAForkIsNotSeen(t *testing.T) {
	st, s := over(t, 4)
	done(t, "Map", s.Map(0, 3, both))
	for at := range 3 {
		stores(t, s, at, 0, int64(at+1))
	}
	f := forks(t, s)
	done(t, "Map", s.Map(3, 1, both))
	done(t, "Map", f.Map(4, 1, both))
	refusesLoad(t, f, st, 3, 0, api.ErrMissing)
	refusesLoad(t, s, st, 4, 0, api.ErrMissing)
	done(t, "Protect", f.Protect(0, 1, api.Reads))
	stores(t, s, 0, 1, 5)
	words(t, f, 0, [api.Words]int64{0: 1})
	refusesStore(t, f, st, 0, 0, 1, api.ErrFalse)
	done(t, "Unmap", f.Unmap(1, 1))
	words(t, s, 1, [api.Words]int64{0: 2})
	is(t, "the one", s, st, 4, 3, 0)
	is(t, "the other one", f, st, 3, 2, 0)
	done(t, "Map", f.Map(1, 1, both))
	words(t, f, 1, [api.Words]int64{})
	words(t, s, 1, [api.Words]int64{0: 2})
	refusesStore(t, f, st, 1, 0, 6, api.ErrFull)
	stores(t, s, 1, 0, 7) // it has the frame alone now
	is(t, "none was taken", s, st, 4, 3, 0)
}

func TestAForkOfAFork(t *testing.T) {
	st, a := over(t, 4)
	done(t, "Map", a.Map(7, 1, both))
	stores(t, a, 7, 1, 1)
	b := forks(t, a)
	c := forks(t, b)
	is(t, "three have one frame", c, st, 1, 1, 3)
	stores(t, b, 7, 1, 2)
	is(t, "the second has its own", b, st, 1, 1, 2)
	d := forks(t, b)
	stores(t, c, 7, 1, 3)
	is(t, "the third, too", c, st, 1, 1, 1)
	stores(t, a, 7, 2, 4)
	is(t, "the first keeps its frame", a, st, 1, 1, 1)
	stores(t, d, 7, 2, 5)
	stores(t, b, 7, 2, 6)
	is(t, "each has one", d, st, 1, 1, 0)
	words(t, a, 7, [api.Words]int64{1: 1, 2: 4})
	words(t, b, 7, [api.Words]int64{1: 2, 2: 6})
	words(t, c, 7, [api.Words]int64{1: 3})
	words(t, d, 7, [api.Words]int64{1: 2, 2: 5})
}

func TestManyForksShareOneFrame(t *testing.T) {
	st, s := over(t, 1)
	done(t, "Map", s.Map(0, 1, both))
	stores(t, s, 0, 0, 5)
	all := []*vm.Space{s}
	for i := range 300 { // more than there are frames
		all = append(all, forks(t, all[i]))
	}
	for _, x := range all {
		is(t, "shared", x, st, 1, 1, 0)
		loads(t, x, 0, 0, 5)
		refusesStore(t, x, st, 0, 0, 5, api.ErrFull)
	}
	for _, x := range all[1:] {
		x.Clear()
	}
	stores(t, s, 0, 0, 6) // the last one of those that shared
	is(t, "its own", s, st, 1, 1, 0)
	done(t, "Unmap", s.Unmap(0, 1))
	is(t, "nobody's", s, st, 0, 0, 1)
}

func TestNoFreeFrameBehindAFork(t *testing.T) {
	st, s := over(t, 2)
	done(t, "Map", s.Map(0, 3, both))
	stores(t, s, 0, 0, 1)
	f := forks(t, s)
	stores(t, s, 1, 0, 2)
	is(t, "none is free", s, st, 3, 2, 0)
	refusesStore(t, s, st, 0, 0, 1, api.ErrFull) // a page that shares its frame
	refusesStore(t, f, st, 0, 0, 3, api.ErrFull)
	refusesStore(t, s, st, 2, 0, 3, api.ErrFull) // one that has none
	stores(t, s, 1, 0, 3)                        // one whose frame is its own
	words(t, s, 0, [api.Words]int64{0: 1})
	words(t, f, 0, [api.Words]int64{0: 1})
	done(t, "Unmap", s.Unmap(1, 1))
	stores(t, f, 0, 0, 4)
	is(t, "one was free", f, st, 3, 1, 0)
	stores(t, s, 0, 1, 5) // of those that shared it writes last
	is(t, "none was taken", s, st, 2, 1, 0)
	words(t, s, 0, [api.Words]int64{0: 1, 1: 5})
	words(t, f, 0, [api.Words]int64{0: 4})
}

func TestAFrameIsFreeWhenNoPageHasIt(t *testing.T) {
	st, s := over(t, 3)
	done(t, "Map", s.Map(0, 2, both))
	stores(t, s, 0, 0, 1)
	stores(t, s, 1, 0, 2)
	f := forks(t, s)
	g := forks(t, f)
	done(t, "Unmap", s.Unmap(0, 2))
	is(t, "two have them yet", s, st, 0, 0, 1)
	words(t, f, 0, [api.Words]int64{0: 1})
	g.Clear()
	is(t, "one has them yet", g, st, 0, 0, 1)
	words(t, f, 1, [api.Words]int64{0: 2})
	stores(t, f, 1, 1, 3)
	is(t, "they are its own", f, st, 2, 2, 1)
	done(t, "Unmap", f.Unmap(1, 1))
	is(t, "one is free", f, st, 1, 1, 2)
	f.Clear()
	is(t, "both are", f, st, 0, 0, 3)
}

func TestClear(t *testing.T) {
	st, s := over(t, 3)
	done(t, "Map", s.Map(0, api.MaxPages, both))
	stores(t, s, 0, 0, 1)
	stores(t, s, last, 0, 2)
	f := forks(t, s)
	stores(t, f, 0, 0, 3)
	is(t, "three frames", s, st, api.MaxPages, 2, 0)
	s.Clear()
	is(t, "cleared", s, st, 0, 0, 1) // its own is free, what it shared is not
	words(t, f, 0, [api.Words]int64{0: 3})
	words(t, f, last, [api.Words]int64{0: 2})
	for at := range api.MaxPages {
		refusesLoad(t, s, st, at, 0, api.ErrMissing)
	}
	s.Clear() // of one without pages
	is(t, "cleared again", s, st, 0, 0, 1)
	f.Clear()
	is(t, "the last one", f, st, 0, 0, 3)
	done(t, "Map", s.Map(0, 2, both)) // it can be used as before
	stores(t, s, 0, 1, 4)
	words(t, s, 0, [api.Words]int64{1: 4})
	is(t, "mapped again", s, st, 2, 1, 2)
}

func TestAFrameThatComesBackHasNoWords(t *testing.T) {
	st, s := over(t, 1)
	for i := range 3 {
		done(t, "Map", s.Map(i, 1, both))
		for w := range api.Words {
			stores(t, s, i, w, -1)
		}
		s.Clear()
		done(t, "Map", s.Map(i, 1, both))
		stores(t, s, i, i, 5)
		want := [api.Words]int64{}
		want[i] = 5
		words(t, s, i, want)
		s.Clear()
	}
	is(t, "all comes back", s, st, 0, 0, 1)
}

func TestSpacesOverOneStore(t *testing.T) {
	st := store(t, 2)
	a, b := made(t, st), made(t, st)
	done(t, "Map", a.Map(0, 2, both))
	refusesLoad(t, b, st, 0, 0, api.ErrMissing)
	done(t, "Map", b.Map(0, 1, both))
	stores(t, a, 0, 0, 1)
	words(t, b, 0, [api.Words]int64{})
	stores(t, b, 0, 0, 2)
	is(t, "the one", a, st, 2, 1, 0)
	is(t, "the other one", b, st, 1, 1, 0)
	words(t, a, 0, [api.Words]int64{0: 1})
	refusesStore(t, a, st, 1, 0, 3, api.ErrFull)
	b.Clear()
	stores(t, a, 1, 0, 3)
	is(t, "the one", a, st, 2, 2, 0)
	is(t, "the other one", b, st, 0, 0, 0)
}

func TestStoresShareNothing(t *testing.T) {
	st, s := over(t, 1)
	other, x := over(t, 1)
	done(t, "Map", s.Map(0, 1, both))
	done(t, "Map", x.Map(0, 1, both))
	stores(t, s, 0, 0, 1)
	is(t, "the other one", x, other, 1, 0, 1)
	stores(t, x, 0, 0, 2)
	words(t, s, 0, [api.Words]int64{0: 1})
	words(t, x, 0, [api.Words]int64{0: 2})
	x.Clear()
	is(t, "the first one", s, st, 1, 1, 0)
}

func TestAllOfAGreatStoreComesBack(t *testing.T) {
	for _, n := range []int{1, 5, api.MaxPages - 1, api.MaxPages} {
		st := store(t, n)
		s := fills(t, st)
		is(t, "all are had", s, st, n, n, 0)
		f := forks(t, s)
		s.Clear()
		is(t, "the fork has them", f, st, n, n, 0)
		for at := range n { // one by one
			done(t, "Unmap", f.Unmap(at, 1))
			is(t, "unmapped", f, st, n-at-1, n-at-1, at+1)
		}
		fills(t, st)
	}
}

// What no function made has nothing, and nothing panics.
func TestWhatWasNotMade(t *testing.T) {
	refused, _ := vm.NewStore(0)
	if refused.Left() != 0 || new(vm.Store).Left() != 0 {
		t.Error("no store has frames")
	}
	no, _ := vm.New(nil)
	for _, s := range []*vm.Space{no, new(vm.Space)} {
		refusesMap(t, s, refused, 0, 0, 0, api.ErrRange)
		refusesMap(t, s, refused, 0, 1, 0, api.ErrArg)
		refusesMap(t, s, refused, 0, 1, 1, api.ErrMissing)
		refusesUnmap(t, s, refused, 0, 1, api.ErrMissing)
		refusesProtect(t, s, refused, 0, 1, 1, api.ErrMissing)
		refusesLoad(t, s, refused, 0, 0, api.ErrMissing)
		refusesStore(t, s, refused, 0, 0, 1, api.ErrMissing)
		s.Clear()
		is(t, "no space", s.Fork(), refused, 0, 0, 0)
	}
	s := made(t, new(vm.Store))
	done(t, "Map", s.Map(0, 1, both))
	wrong(t, "Store", s.Store(0, 0, 1), api.ErrFull)
	is(t, "over no frames", s.Fork(), refused, 1, 0, 0)
	s.Clear()
}
