package acct_test

import (
	"errors"
	"math"
	"slices"
	"testing"

	"almshouse/acct"
	"almshouse/api"
	"almshouse/plain"
)

const million = 1_000_000

// Beside the bounds stand the numbers of which a sum would wrap round.
var (
	wrongKinds  = []int{math.MinInt, -api.Limits, -1, api.Limits, api.Limits + 1, math.MaxInt}
	wrongLimits = []int{math.MinInt, -million, -1, million + 1, math.MaxInt}
	wrongAsks   = []int{math.MinInt, -million - 1, million + 1, math.MaxInt}
)

type row [api.Limits]int

func ask(kind, n int) acct.Ask { return acct.Ask{Kind: kind, N: n} }

// alone is a row of which one kind has n, the others nothing.
func alone(kind, n int) row {
	var r row
	r[kind] = n
	return r
}

// made is a ledger that may have most, and has used.
func made(t *testing.T, most, used row) *acct.Ledger {
	t.Helper()
	l := &acct.Ledger{}
	for kind := range most {
		limits(t, l, kind, max(most[kind], used[kind]))
		charges(t, l, ask(kind, used[kind]))
		limits(t, l, kind, most[kind])
	}
	is(t, "made", l, most, used)
	return l
}

func limits(t *testing.T, l *acct.Ledger, kind, n int) {
	t.Helper()
	if err := l.Limit(kind, n); err != nil {
		t.Fatalf("Limit(%d, %d): %v: want no error", kind, n, err)
	}
}

func charges(t *testing.T, l *acct.Ledger, asks ...acct.Ask) {
	t.Helper()
	if err := l.Charge(asks); err != nil {
		t.Fatalf("Charge(%v): %v: want no error", asks, err)
	}
}

func is(t *testing.T, what string, l *acct.Ledger, most, used row) {
	t.Helper()
	for kind := range used {
		if l.Used(kind) != used[kind] || l.Most(kind) != most[kind] {
			t.Errorf("%s: of kind %d %d used, %d at most: want %d, %d", what, kind,
				l.Used(kind), l.Most(kind), used[kind], most[kind])
		}
	}
}

// now is what Used and Most tell of each kind.
func now(l *acct.Ledger) (most, used row) {
	for kind := range used {
		most[kind], used[kind] = l.Most(kind), l.Used(kind)
	}
	return most, used
}

func noLimit(t *testing.T, l *acct.Ledger, kind, n int, want api.Errno) {
	t.Helper()
	most, used := now(l)
	if e, place := plain.Place(l.Limit(kind, n)); e != want || place != -1 {
		t.Errorf("Limit(%d, %d): error %d at %d: want %d, without a place", kind, n, e, place, want)
	}
	is(t, "behind a Limit that is refused", l, most, used)
}

func refuses(t *testing.T, l *acct.Ledger, place int, want api.Errno, asks ...acct.Ask) {
	t.Helper()
	most, used := now(l)
	err := l.Charge(asks)
	if e, got := plain.Place(err); e != want || got != place {
		t.Errorf("Charge(%v): error %d at %d: want %d at %d", asks, e, got, want, place)
	}
	var at *api.At
	if errors.As(err, &at) && at.Err != want {
		t.Errorf("Charge(%v): an At of error %d: want %d", asks, at.Err, want)
	}
	is(t, "behind a Charge that is refused", l, most, used)
}

func TestTheZeroValueHasNothingAndMayHaveNothing(t *testing.T) {
	l := &acct.Ledger{}
	is(t, "the zero value", l, row{}, row{})
	for kind := range api.Limits {
		refuses(t, l, 0, api.ErrLimit, ask(kind, 1))
		refuses(t, l, 0, api.ErrState, ask(kind, -1))
		charges(t, l, ask(kind, 0))
	}
	is(t, "the zero value", l, row{}, row{})
}

func TestLimitIsOfOneKindAlone(t *testing.T) {
	for kind := range api.Limits {
		most, used := row{5, 6, 7}, row{1, 2, 3}
		l := made(t, most, used)
		for _, n := range []int{9, 0, 1, million - 1, million, 2, 2} {
			limits(t, l, kind, n)
			most[kind] = n
			is(t, "behind Limit", l, most, used)
		}
	}
}

func TestLimitRefusesWrongNumbers(t *testing.T) {
	l := made(t, row{5, 6, 7}, row{1, 2, 3})
	for kind := range api.Limits {
		for _, n := range wrongLimits {
			noLimit(t, l, kind, n, api.ErrRange)
		}
	}
}

func TestLimitOfNoKind(t *testing.T) {
	l := made(t, row{5, 6, 7}, row{1, 2, 3})
	for _, kind := range wrongKinds {
		for _, n := range append([]int{0, 1, million}, wrongLimits...) { // told ahead of ErrRange
			noLimit(t, l, kind, n, api.ErrArg)
		}
	}
}

func TestUsedAndMostOfNoKind(t *testing.T) {
	for _, l := range []*acct.Ledger{{}, made(t, row{5, 6, 7}, row{1, 2, 3})} {
		for _, kind := range wrongKinds {
			if l.Used(kind) != 0 || l.Most(kind) != 0 {
				t.Errorf("of kind %d %d used, %d at most: want 0", kind, l.Used(kind), l.Most(kind))
			}
		}
	}
}

func TestChargeIsOfOneKindAlone(t *testing.T) {
	for kind := range api.Limits {
		most, used := row{50, 60, 70}, row{10, 20, 30}
		l := made(t, most, used)
		for _, n := range []int{1, 7, -3, 0, 4, -9} {
			charges(t, l, ask(kind, n))
			used[kind] += n
			is(t, "behind Charge", l, most, used)
		}
	}
}

func TestJustAsMuchAsThereMayBe(t *testing.T) {
	for kind := range api.Limits {
		for _, most := range []int{1, 2, 9, million - 1, million} {
			l := &acct.Ledger{}
			limits(t, l, kind, most)
			if most < million { // else N would be out of its own bounds
				refuses(t, l, 0, api.ErrLimit, ask(kind, most+1))
			}
			refuses(t, l, 1, api.ErrLimit, ask(kind, most), ask(kind, 1))
			charges(t, l, ask(kind, most))
			refuses(t, l, 0, api.ErrLimit, ask(kind, 1))
			refuses(t, l, 0, api.ErrLimit, ask(kind, million))
			charges(t, l, ask(kind, 0))
			charges(t, l, ask(kind, -1))
			refuses(t, l, 0, api.ErrLimit, ask(kind, 2))
			charges(t, l, ask(kind, 1))
		}
	}
}

func TestDownToJustNothing(t *testing.T) {
	for kind := range api.Limits {
		for _, used := range []int{0, 1, 2, 9, million - 1, million} {
			l := &acct.Ledger{}
			limits(t, l, kind, million)
			charges(t, l, ask(kind, used))
			if used < million {
				refuses(t, l, 0, api.ErrState, ask(kind, -used-1))
			}
			charges(t, l, ask(kind, -used))
			refuses(t, l, 0, api.ErrState, ask(kind, -1))
			refuses(t, l, 0, api.ErrState, ask(kind, -million))
			charges(t, l, ask(kind, 0))
			is(t, "down to nothing", l, alone(kind, million), row{})
		}
	}
}

func TestTheGreatestAndTheLeastAsk(t *testing.T) {
	for kind := range api.Limits {
		l := &acct.Ledger{}
		limits(t, l, kind, million)
		for _, n := range []int{million, -million, million - 1, 1, -million + 1, -1} {
			charges(t, l, ask(kind, n))
		}
		is(t, "there and back", l, alone(kind, million), row{})
	}
}

func TestChargeRefusesWrongNumbers(t *testing.T) {
	states := []*acct.Ledger{
		{},
		made(t, row{million, million, million}, row{}),
		made(t, row{million, million, million}, row{million, million, million}),
		made(t, row{}, row{million, million, million}),
	}
	for _, l := range states {
		for kind := range api.Limits {
			for _, n := range wrongAsks { // told ahead of ErrLimit and of ErrState
				refuses(t, l, 0, api.ErrRange, ask(kind, n))
			}
		}
	}
}

func TestChargeOfNoKind(t *testing.T) {
	for _, l := range []*acct.Ledger{{}, made(t, row{5, 6, 7}, row{1, 2, 3})} {
		for _, kind := range wrongKinds {
			for _, n := range append([]int{0, 1, -1, million, -million}, wrongAsks...) { // told ahead of ErrRange
				refuses(t, l, 0, api.ErrArg, ask(kind, n))
			}
		}
	}
}

func TestALoweredLimitLeavesWhatThereIs(t *testing.T) {
	for kind := range api.Limits {
		l := &acct.Ledger{}
		limits(t, l, kind, 9)
		charges(t, l, ask(kind, 9))
		limits(t, l, kind, 4)
		is(t, "lowered", l, alone(kind, 4), alone(kind, 9))
		refuses(t, l, 0, api.ErrLimit, ask(kind, 1))
		charges(t, l, ask(kind, 0))
		charges(t, l, ask(kind, -1)) // above what there may be, before and behind it
		is(t, "one less", l, alone(kind, 4), alone(kind, 8))
		refuses(t, l, 0, api.ErrLimit, ask(kind, 1))
		refuses(t, l, 1, api.ErrLimit, ask(kind, -4), ask(kind, 1))
		charges(t, l, ask(kind, -5), ask(kind, 1))
		is(t, "just as much as there may be", l, alone(kind, 4), alone(kind, 4))
		refuses(t, l, 0, api.ErrState, ask(kind, -5))
		limits(t, l, kind, 0)
		charges(t, l, ask(kind, -4))
		is(t, "nothing", l, row{}, row{})
	}
}

func TestARaisedLimitMakesRoom(t *testing.T) {
	l := made(t, row{1, 2, 3}, row{1, 2, 3})
	refuses(t, l, 0, api.ErrLimit, ask(1, 1))
	limits(t, l, 1, 3)
	charges(t, l, ask(1, 1))
	is(t, "raised", l, row{1, 3, 3}, row{1, 3, 3})
}

func TestChargeOfNoAsks(t *testing.T) {
	for _, l := range []*acct.Ledger{{}, made(t, row{5, 0, 7}, row{1, 2, 3})} {
		most, used := now(l)
		for _, asks := range [][]acct.Ask{nil, {}} {
			charges(t, l, asks...)
			is(t, "behind no asks", l, most, used)
		}
	}
}

func TestSeveralAsksInOneCharge(t *testing.T) {
	l := made(t, row{10, 20, 30}, row{1, 2, 3})
	charges(t, l, ask(2, 5), ask(0, 4), ask(1, -2))
	is(t, "of several kinds", l, row{10, 20, 30}, row{5, 0, 8})
	charges(t, l, ask(0, 2), ask(0, 3), ask(0, -1))
	is(t, "of one kind", l, row{10, 20, 30}, row{9, 0, 8})
	charges(t, l, ask(0, 1), ask(2, -8), ask(0, -10), ask(2, 30), ask(1, 0))
	is(t, "of both", l, row{10, 20, 30}, row{0, 0, 30})
	charges(t, l, ask(0, 10), ask(0, -10), ask(0, 10), ask(0, -10))
	is(t, "there and back", l, row{10, 20, 30}, row{0, 0, 30})
}

// What an ask may be hangs on those ahead of it, and on none behind it.
func TestAsksAreTakenOneByOne(t *testing.T) {
	l := made(t, row{5, 5, 5}, row{3, 3, 3})
	refuses(t, l, 0, api.ErrLimit, ask(0, 3), ask(0, -1))
	charges(t, l, ask(0, -1), ask(0, 3))
	is(t, "less first", l, row{5, 5, 5}, row{5, 3, 3})
	refuses(t, l, 0, api.ErrState, ask(1, -4), ask(1, 1))
	charges(t, l, ask(1, 1), ask(1, -4))
	is(t, "more first", l, row{5, 5, 5}, row{5, 0, 3})
	refuses(t, l, 2, api.ErrLimit, ask(2, 1), ask(2, 1), ask(2, 1))
	refuses(t, l, 3, api.ErrState, ask(2, -1), ask(2, -1), ask(2, -1), ask(2, -1))
}

// wrongs is, of a ledger that may have 100 of each kind and has 50, an ask for each error.
func wrongs() map[api.Errno]acct.Ask {
	return map[api.Errno]acct.Ask{
		api.ErrArg:   ask(api.Limits, 1),
		api.ErrRange: ask(1, million+1),
		api.ErrLimit: ask(1, 60),
		api.ErrState: ask(1, -60),
	}
}

func TestTheFirstTheMiddleOrTheLastMayNotBe(t *testing.T) {
	right := []acct.Ask{ask(0, 1), ask(1, 2), ask(2, -3), ask(1, -1)}
	for want, bad := range wrongs() {
		for place := range len(right) + 1 {
			l := made(t, row{100, 100, 100}, row{50, 50, 50})
			refuses(t, l, place, want, slices.Insert(slices.Clone(right), place, bad)...)
			charges(t, l, right...)
			is(t, "without it", l, row{100, 100, 100}, row{51, 51, 47})
		}
	}
}

// Each ask goes wholly ahead of the next one, whatever is wrong with that.
func TestOfSeveralThatMayNotBeTheFirst(t *testing.T) {
	l := made(t, row{100, 100, 100}, row{50, 50, 50})
	for first, a := range wrongs() {
		for _, b := range wrongs() {
			refuses(t, l, 0, first, a, b)
			refuses(t, l, 1, first, ask(0, 1), a, ask(2, 1), b)
		}
	}
}

func TestAsksStayAsTheyAre(t *testing.T) {
	l := made(t, row{100, 100, 100}, row{50, 50, 50})
	all := []acct.Ask{ask(0, 1), ask(1, -2), ask(2, 3), ask(1, 90), ask(0, 4)}
	want := slices.Clone(all)
	charges(t, l, all[:3]...)
	refuses(t, l, 3, api.ErrLimit, all[:4]...)
	if !slices.Equal(all, want) {
		t.Errorf("the asks are %v: want %v", all, want)
	}
	all[0] = ask(0, 9)
	is(t, "the asks are written into", l, row{100, 100, 100}, row{51, 48, 53})
}

func TestEachRefusalIsItsOwn(t *testing.T) {
	l := &acct.Ledger{}
	var a, b *api.At
	if !errors.As(l.Charge([]acct.Ask{ask(0, 1)}), &a) {
		t.Fatal("Charge: no At")
	}
	*a = api.At{Err: api.ErrSpoilt, Place: 7}
	if !errors.As(l.Charge([]acct.Ask{ask(0, 1)}), &b) || *b != (api.At{Err: api.ErrLimit}) {
		t.Errorf("Charge: %v: want ErrLimit at 0", b)
	}
}

func TestLedgersShareNothing(t *testing.T) {
	a := made(t, row{5, 6, 7}, row{1, 2, 3})
	b := *a
	charges(t, a, ask(0, 1))
	limits(t, a, 2, 9)
	is(t, "a copy", &b, row{5, 6, 7}, row{1, 2, 3})
	charges(t, &b, ask(1, 4))
	is(t, "the first one", a, row{5, 6, 9}, row{2, 2, 3})
	is(t, "a new one", &acct.Ledger{}, row{}, row{})
}

func TestALedgerThatIsNilHasNoKinds(t *testing.T) {
	var l *acct.Ledger
	is(t, "nil", l, row{}, row{})
	noLimit(t, l, 0, 1, api.ErrArg)
	refuses(t, l, 0, api.ErrArg, ask(0, 0), ask(0, 1))
	charges(t, l)
}

// die has numbers that look drawn, the same each time.
type die uint64

func (d *die) below(n int) int {
	*d = *d*6364136223846793005 + 1442695040888963407
	return int(uint64(*d>>33) % uint64(n))
}

// book is the document's words: what each ask was, from the beginning on, and what there may be.
type book struct {
	most row
	asks []acct.Ask
}

func (b *book) used(kind int) int {
	n := 0
	for _, a := range b.asks {
		if a.Kind == kind {
			n += a.N
		}
	}
	return n
}

// wrong is the error of an ask behind those of the book.
func (b *book) wrong(a acct.Ask) api.Errno {
	switch {
	case a.Kind < 0 || a.Kind >= api.Limits:
		return api.ErrArg
	case a.N < -million || a.N > million:
		return api.ErrRange
	case a.N > 0 && b.used(a.Kind)+a.N > b.most[a.Kind]:
		return api.ErrLimit
	case b.used(a.Kind)+a.N < 0:
		return api.ErrState
	}
	return api.OK
}

// charge books all asks, or tells which one may not be.
func (b *book) charge(asks []acct.Ask) (int, api.Errno) {
	before := len(b.asks)
	for i, a := range asks {
		if e := b.wrong(a); e != api.OK {
			b.asks = b.asks[:before]
			return i, e
		}
		b.asks = append(b.asks, a)
	}
	return 0, api.OK
}

func (d *die) ask() acct.Ask {
	a := ask(d.below(api.Limits), d.below(21)-8)
	switch d.below(30) {
	case 0:
		a.Kind = wrongKinds[d.below(len(wrongKinds))]
	case 1:
		a.N = wrongAsks[d.below(len(wrongAsks))]
	case 2:
		a.N = million * (1 - 2*d.below(2))
	}
	return a
}

func (d *die) asks() []acct.Ask {
	l := make([]acct.Ask, d.below(5))
	for i := range l {
		l[i] = d.ask()
	}
	return l
}

// Long walks, held against a book of all asks.
func TestWalksAreAsTheDocumentSays(t *testing.T) {
	d := die(4)
	for walk := range 200 {
		l, b := &acct.Ledger{}, &book{}
		for step := range 100 {
			if d.below(4) == 0 {
				walkLimit(t, l, b, d.below(api.Limits), d.below(40)+d.below(8)/7*(million-39))
			} else {
				walkCharge(t, l, b, d.asks())
			}
			is(t, "on a walk", l, b.most, row{b.used(0), b.used(1), b.used(2)})
			if t.Failed() {
				t.Fatalf("walk %d, step %d", walk, step)
			}
		}
	}
}

func walkLimit(t *testing.T, l *acct.Ledger, b *book, kind, n int) {
	t.Helper()
	limits(t, l, kind, n)
	b.most[kind] = n
}

func walkCharge(t *testing.T, l *acct.Ledger, b *book, asks []acct.Ask) {
	t.Helper()
	if place, e := b.charge(asks); e != api.OK {
		refuses(t, l, place, e, asks...)
	} else {
		charges(t, l, asks...)
	}
}
