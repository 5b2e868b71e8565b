package frames_test

import (
	"math"
	"testing"

	"almshouse/api"
	"almshouse/frames"
	"almshouse/plain"
)

// Beside each bound stand the numbers of which a sum or a product would wrap round.
var (
	wrongWords = []int{math.MinInt, -api.Words, -1, api.Words, api.Words + 1, math.MaxInt}
	edgeWords  = []int{0, api.Words - 1}
)

func wrongFrames(n int) []int { return []int{math.MinInt, -n, -1, n, n + 1, math.MaxInt} }

func edgeFrames(n int) []int { return []int{0, n - 1} }

func made(t *testing.T, n int) *frames.Memory {
	t.Helper()
	m, err := frames.New(n)
	if err != nil || m == nil {
		t.Fatalf("New(%d): %v, %v: want memory", n, m, err)
	}
	return m
}

// filled is memory of which no two words are the same, and none is 0.
func filled(t *testing.T, n int) *frames.Memory {
	t.Helper()
	m := made(t, n)
	for f := range n {
		for w := range api.Words {
			done(t, m.Set(f, w, int64(1+f*api.Words+w)))
		}
	}
	return m
}

func done(t *testing.T, err error) {
	t.Helper()
	if err != nil {
		t.Fatalf("told %v: want no error", err)
	}
}

func refused(t *testing.T, what string, err error) {
	t.Helper()
	if e, at := plain.Place(err); e != api.ErrRange || at != -1 {
		t.Errorf("%s: error %d at %d: want ErrRange, without a place", what, e, at)
	}
}

// all are the words of each frame, as Get tells them.
func all(t *testing.T, m *frames.Memory) [][api.Words]int64 {
	t.Helper()
	l := make([][api.Words]int64, m.Len())
	for f := range l {
		for w := range l[f] {
			v, err := m.Get(f, w)
			done(t, err)
			l[f][w] = v
		}
	}
	return l
}

func same(t *testing.T, what string, m *frames.Memory, want [][api.Words]int64) {
	t.Helper()
	got := all(t, m)
	if len(got) != len(want) {
		t.Fatalf("%s: %d frames: want %d", what, len(got), len(want))
	}
	for f := range want {
		if got[f] != want[f] {
			t.Errorf("%s: frame %d is %v: want %v", what, f, got[f], want[f])
		}
	}
}

func TestNewHasSoManyFramesAllZero(t *testing.T) {
	for _, n := range []int{1, 2, 7, api.MaxFrames - 1, api.MaxFrames} {
		m := made(t, n)
		if m.Len() != n {
			t.Errorf("New(%d): Len %d", n, m.Len())
		}
		same(t, "new memory", m, make([][api.Words]int64, n))
	}
}

func TestNewRefusesWhatIsOutOfRange(t *testing.T) {
	for _, n := range []int{math.MinInt, -1, 0, api.MaxFrames + 1, math.MaxInt} {
		m, err := frames.New(n)
		refused(t, "New", err)
		if m != nil {
			t.Errorf("New(%d): memory beside an error", n)
		}
	}
}

func TestLenStays(t *testing.T) {
	m := filled(t, 3)
	done(t, m.Zero(2))
	done(t, m.Copy(0, 2))
	refused(t, "Set", m.Set(3, 0, 1))
	if m.Len() != 3 {
		t.Errorf("Len %d: want 3", m.Len())
	}
}

func TestSetChangesOneWordAlone(t *testing.T) {
	for _, n := range []int{1, 2, 5, api.MaxFrames} {
		m := filled(t, n)
		want := all(t, m)
		for _, f := range edgeFrames(n) {
			for w := range api.Words {
				v := int64(-100 - w)
				done(t, m.Set(f, w, v))
				want[f][w] = v
				same(t, "after Set", m, want)
			}
		}
	}
}

func TestSetTakesEveryValue(t *testing.T) {
	m := made(t, 2)
	for _, v := range []int64{1, -1, math.MaxInt32 + 1, math.MinInt32 - 1, math.MaxInt64, math.MinInt64, 0} {
		done(t, m.Set(1, api.Words-1, v))
		if got, err := m.Get(1, api.Words-1); got != v || err != nil {
			t.Errorf("Get: %d, %v: want %d", got, err, v)
		}
	}
}

func TestGetChangesNothing(t *testing.T) {
	m := filled(t, 2)
	want := all(t, m)
	same(t, "read again", m, want)
}

func TestZeroEmptiesOneFrameAlone(t *testing.T) {
	for _, n := range []int{1, 2, 5, api.MaxFrames} {
		for _, f := range append(edgeFrames(n), n/2) {
			m := filled(t, n)
			want := all(t, m)
			want[f] = [api.Words]int64{}
			for range 2 { // an empty frame may be emptied, too
				done(t, m.Zero(f))
				same(t, "after Zero", m, want)
			}
		}
	}
}

func TestCopyTakesAllWordsOfTheOther(t *testing.T) {
	const n = 5
	for to := range n {
		for from := range n { // the same one among them: it stays as it is
			m := filled(t, n)
			want := all(t, m)
			want[to] = want[from]
			done(t, m.Copy(to, from))
			same(t, "after Copy", m, want)
		}
	}
}

func TestCopyAtTheLastFrame(t *testing.T) {
	m := filled(t, api.MaxFrames)
	want := all(t, m)
	want[0] = want[api.MaxFrames-1]
	done(t, m.Copy(0, api.MaxFrames-1))
	same(t, "after Copy", m, want)
}

func TestCopiedFramesShareNothing(t *testing.T) {
	const to, from = 2, 0
	for _, written := range []int{to, from} {
		m := filled(t, 3)
		done(t, m.Copy(to, from))
		want := all(t, m)
		for w := range api.Words {
			done(t, m.Set(written, w, -7))
			want[written][w] = -7
			same(t, "after Copy and Set", m, want)
		}
		done(t, m.Zero(written))
		want[written] = [api.Words]int64{}
		same(t, "after Copy and Zero", m, want)
	}
}

func TestMemoriesShareNothing(t *testing.T) {
	a, b := filled(t, 2), filled(t, 2)
	want := all(t, b)
	done(t, a.Set(0, 0, -1))
	done(t, a.Zero(1))
	same(t, "the other memory", b, want)
}

func TestWrongWordsAreRefused(t *testing.T) {
	for _, n := range []int{1, 3, api.MaxFrames} {
		m := filled(t, n)
		want := all(t, m)
		for _, f := range edgeFrames(n) {
			for _, w := range wrongWords {
				refuseWord(t, m, f, w)
			}
		}
		same(t, "after wrong words", m, want)
	}
}

func TestWrongFramesAreRefused(t *testing.T) {
	for _, n := range []int{1, 3, api.MaxFrames} {
		m := filled(t, n)
		want := all(t, m)
		for _, f := range wrongFrames(n) {
			for _, w := range append(edgeWords, wrongWords...) {
				refuseWord(t, m, f, w)
			}
			refused(t, "Zero", m.Zero(f))
			refused(t, "Copy, both wrong", m.Copy(f, f))
			for _, ok := range edgeFrames(n) {
				refused(t, "Copy to a wrong frame", m.Copy(f, ok))
				refused(t, "Copy from a wrong frame", m.Copy(ok, f))
			}
		}
		same(t, "after wrong frames", m, want)
	}
}

func refuseWord(t *testing.T, m *frames.Memory, f, w int) {
	t.Helper()
	refused(t, "Set", m.Set(f, w, -1))
	v, err := m.Get(f, w)
	refused(t, "Get", err)
	if v != 0 {
		t.Errorf("Get(%d, %d): %d beside an error", f, w, v)
	}
}

func TestWhatNewRefusedHasNoFrames(t *testing.T) {
	m, _ := frames.New(0)
	if m.Len() != 0 {
		t.Errorf("Len %d: want 0", m.Len())
	}
	refuseWord(t, m, 0, 0)
	refused(t, "Zero", m.Zero(0))
	refused(t, "Copy", m.Copy(0, 0))
}
