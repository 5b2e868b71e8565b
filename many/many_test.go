package many_test

import (
	"fmt"
	"math"
	"slices"
	"strings"
	"testing"
	"testing/synctest"

	"almshouse/api"
	"almshouse/desk"
	"almshouse/many"
	"almshouse/plain"
)

const (
	mostTexts   = 50
	mostWorkers = 16
)

var noWorkers = []int{math.MinInt, math.MinInt + 1, 1 - 1<<32, -256, -16, -2, -1, 0, mostWorkers + 1, mostWorkers + 2, 50, 256, 256 + 1, 1<<16 + 1, 1 << 31, 1<<32 + 1, 1<<32 + 16, math.MaxInt}

// session is a text of which no other number has the same answers; some have many lines, and some few.
func session(i int) string {
	var s strings.Builder
	fmt.Fprintf(&s, "new %d\n1 fork\n2 exit %d\n1 wait\n1 map 0 4 3\n1 store 0 0 %d\n1 open /n%d 3 y\n", 1+i%7, i, i, i)
	for j := range i * 37 % 100 {
		fmt.Fprintf(&s, "1 seek 0 0\n1 write 0 %d\n1 fork\n1 store %d 0 %d\n%d exit 3\n1 wait\n", j, j%5, j, 2+j%9)
	}
	return s.String() + "free\npids\n1 list /\n1 load 0 0\n"
}

func sessions(n int) []string {
	l := make([]string, n)
	for i := range l {
		l[i] = session(i)
	}
	return l
}

// oneByOne are the answers that All must give.
func oneByOne(texts []string) []string {
	l := make([]string, len(texts))
	for i, s := range texts {
		l[i] = desk.Session(s)
	}
	return l
}

func answers(t *testing.T, texts []string, workers int, want []string) {
	t.Helper()
	got, err := many.All(texts, workers)
	if err != nil {
		t.Fatalf("All of %d texts by %d workers: %v", len(texts), workers, err)
	}
	if len(got) != len(want) {
		t.Fatalf("All of %d texts by %d workers: %d answers", len(texts), workers, len(got))
	}
	for i := range want {
		if got[i] != want[i] {
			t.Errorf("All of %d texts by %d workers: text %d: %.200q: want %.200q", len(texts), workers, i, got[i], want[i])
		}
	}
}

func refuses(t *testing.T, texts []string, workers int) {
	t.Helper()
	l, err := many.All(texts, workers)
	if e, place := plain.Place(err); e != api.ErrLimit || place != -1 {
		t.Errorf("All of %d texts by %d workers: error %d at %d: want %d, without a place", len(texts), workers, e, place, api.ErrLimit)
	}
	if len(l) != 0 {
		t.Errorf("All of %d texts by %d workers: %.100q beside an error", len(texts), workers, l)
	}
}

// 13.1: each text's answers, in order, by as many workers as there may be: the same, run after run.
func TestAnyWorkers(t *testing.T) {
	for _, n := range []int{1, 2, 3, 5, 15, 16, 17, 31, mostTexts} {
		texts := sessions(n)
		want := oneByOne(texts)
		for workers := 1; workers <= mostWorkers; workers++ {
			answers(t, texts, workers, want)
		}
	}
}

func TestRunAfterRun(t *testing.T) {
	texts := sessions(mostTexts)
	slices.Reverse(texts)
	want := oneByOne(texts)
	for run := range 60 {
		answers(t, texts, 1+run%mostWorkers, want)
	}
}

// Of no texts there are no answers, and no error.
func TestNoTexts(t *testing.T) {
	for workers := 1; workers <= mostWorkers; workers++ {
		answers(t, nil, workers, nil)
		answers(t, []string{}, workers, nil)
	}
}

// More workers than texts: some have nothing to do.
func TestMoreWorkersThanTexts(t *testing.T) {
	answers(t, []string{"1 fork"}, mostWorkers, []string{"fork 2\n"})
	answers(t, []string{"1 fork\n1 fork", "free"}, mostWorkers, []string{"fork 2\nfork 3\n", "free 32 0 1\n"})
}

// 13.1: 50 texts may be, 51 not; 1 worker and 16 may be, none and 17 not.
func TestBounds(t *testing.T) {
	full := slices.Repeat([]string{"1 fork\n"}, mostTexts)
	want := slices.Repeat([]string{"fork 2\n"}, mostTexts)
	answers(t, full, 1, want)
	answers(t, full, mostWorkers, want)
	for _, n := range []int{mostTexts + 1, mostTexts + 2, 64, 100, 256, 1000, 1 << 16} {
		texts := slices.Repeat([]string{"1 fork\n"}, n)
		for _, workers := range append([]int{1, 2, mostWorkers}, noWorkers...) {
			refuses(t, texts, workers)
		}
	}
	for _, workers := range noWorkers {
		refuses(t, full, workers)
		refuses(t, []string{"1 fork"}, workers)
		refuses(t, nil, workers)
	}
}

// What is wrong with a text is told among its answers: it is no error of All.
func TestWrongTexts(t *testing.T) {
	texts := []string{"", "\n", "\n\n", strings.Repeat("x", api.MaxText), strings.Repeat("x", api.MaxText+1), strings.Repeat("\n", api.MaxText), "\x00", "\xff\xfe", "1", "nothing", "new 0\nnew 1", ""}
	want := []string{"ok\n", "ok\n", "ok\nok\n", "error 3\n", "error 4\n", strings.Repeat("ok\n", api.MaxText), "error 3\n", "error 3\n", "error 3\n", "error 3\n", "error 2\nnew\n", "ok\n"}
	for workers := 1; workers <= mostWorkers; workers++ {
		answers(t, texts, workers, want)
	}
}

// Each text has a kernel of its own, also the same text.
func TestNothingIsShared(t *testing.T) {
	text := "1 fork\n1 mkdir /d\n1 map 0 9 3\n1 store 0 0 1\nfree\npids\n1 list /\n"
	want := desk.Session(text)
	for workers := 1; workers <= mostWorkers; workers++ {
		answers(t, slices.Repeat([]string{text}, mostTexts), workers, slices.Repeat([]string{want}, mostTexts))
	}
}

// P4: no list that is handed in is written into, nor what stands behind its length, or kept; what comes out is the caller's.
func TestLists(t *testing.T) {
	all := sessions(12)
	before := slices.Clone(all)
	texts := all[3:8]
	got, err := many.All(texts, 4)
	if err != nil {
		t.Fatal(err)
	}
	if !slices.Equal(all, before) {
		t.Error("the list that was handed in, or what stands around it, is written into")
	}
	want := oneByOne(texts)
	clear(all)
	if !slices.Equal(got, want) {
		t.Error("the answers change with the list that was handed in")
	}
	again, err := many.All(before[3:8], 4)
	if err != nil {
		t.Fatal(err)
	}
	clear(got[:cap(got)])
	if !slices.Equal(again, want) {
		t.Error("the answers of one call change with those of another one")
	}
}

// All that works has ended when the answers are there: else synctest.Test fails, since somebody waits for ever.
func TestNobodyIsLeft(t *testing.T) {
	for _, n := range []int{0, 1, 5, mostTexts} {
		for _, workers := range []int{1, 2, mostWorkers} {
			synctest.Test(t, func(t *testing.T) {
				texts := sessions(n)
				answers(t, texts, workers, oneByOne(texts))
			})
		}
	}
	for _, workers := range []int{0, -1, mostWorkers + 1} {
		synctest.Test(t, func(t *testing.T) { refuses(t, sessions(3), workers) })
	}
	synctest.Test(t, func(t *testing.T) { refuses(t, sessions(mostTexts+1), 3) })
}

// Several may ask at the same time.
func TestSeveralAsk(t *testing.T) {
	texts := sessions(20)
	want := oneByOne(texts)
	t.Run("all", func(t *testing.T) {
		for workers := 1; workers <= mostWorkers; workers++ {
			t.Run(fmt.Sprint(workers), func(t *testing.T) {
				t.Parallel()
				answers(t, texts, workers, want)
			})
		}
	})
}
