package halt_test

import (
	"math"
	"runtime"
	"slices"
	"strings"
	"testing"

	"spoor/api"
	"spoor/halt"
)

// made is a stop that New must not refuse.
func made(t *testing.T, budget int) *halt.Stop {
	t.Helper()
	s, e := halt.New(budget)
	if s == nil || e != api.OK {
		t.Fatalf("New(%d): %v, %d", budget, s, e)
	}
	return s
}

// under is a stop that Under must not refuse.
func under(t *testing.T, s *halt.Stop, budget int) *halt.Stop {
	t.Helper()
	u, e := s.Under(budget)
	if u == nil || e != api.OK {
		t.Fatalf("Under(%d): %v, %d", budget, u, e)
	}
	return u
}

// is holds a stop's reason, what is left of it, and its channel against what they should be.
func is(t *testing.T, what string, s *halt.Stop, why api.Errno, left int) {
	t.Helper()
	if s.Why() != why || s.Left() != left || closed(s.Done()) != (why != api.OK) {
		t.Errorf("%s: reason %d, left %d, closed %v; not %d, %d", what, s.Why(), s.Left(), closed(s.Done()), why, left)
	}
}

// answers holds an error against what it should be.
func answers(t *testing.T, what string, got, want api.Errno) {
	t.Helper()
	if got != want {
		t.Errorf("%s: %d, not %d", what, got, want)
	}
}

func closed(c <-chan struct{}) bool {
	select {
	case _, open := <-c:
		return !open
	default:
		return false
	}
}

// log notes what was called, with which reason.
type log struct {
	calls []call
}

type call struct {
	name string
	why  api.Errno
}

func (l *log) note(name string) func(api.Errno) {
	return func(why api.Errno) { l.calls = append(l.calls, call{name, why}) }
}

// called holds the names of what was called, in their order, against what they should be; each was called with why.
func (l *log) called(t *testing.T, what string, why api.Errno, names string) {
	t.Helper()
	var want []call
	for _, name := range strings.Fields(names) {
		want = append(want, call{name, why})
	}
	if !slices.Equal(l.calls, want) {
		t.Errorf("%s: called %v, not %v", what, l.calls, want)
	}
}

// The chapter's table of examples.
func TestExamples(t *testing.T) {
	if s, e := halt.New(-1); s != nil || e != api.ErrArg {
		t.Errorf("New(-1): %v, %d", s, e)
	}
	a := made(t, 10)
	b := under(t, a, 0)
	c := under(t, b, 3)
	var l log
	a.After(l.note("f1"))
	c.After(l.note("f2"))
	b.After(l.note("f3"))
	is(t, "A", a, api.OK, 10)
	is(t, "B", b, api.OK, -1)
	is(t, "C", c, api.OK, 3)
	answers(t, "C.Spend(2)", c.Spend(2), api.OK)
	is(t, "A behind it", a, api.OK, 8)
	is(t, "B behind it", b, api.OK, -1)
	is(t, "C behind it", c, api.OK, 1)
	answers(t, "B.Spend(8)", b.Spend(8), api.OK)
	answers(t, "C.Spend(-1)", c.Spend(-1), api.ErrArg)
	answers(t, "C.Spend(0)", c.Spend(0), api.OK)
	l.called(t, "ahead of it", api.OK, "")
	answers(t, "C.Spend(1)", c.Spend(1), api.ErrHaltBudget)
	l.called(t, "C.Spend(1)", api.ErrHaltBudget, "f1 f3 f2")
	is(t, "A at the end", a, api.ErrHaltBudget, 0)
	is(t, "B at the end", b, api.ErrHaltBudget, -1)
	is(t, "C at the end", c, api.ErrHaltBudget, 1)
	answers(t, "A.Cancel(ErrHalted)", a.Cancel(api.ErrHalted), api.ErrHaltBudget)
	is(t, "B.Under(5)", under(t, b, 5), api.ErrHaltBudget, 5)
	answers(t, "C.Cancel(OK)", c.Cancel(api.OK), api.ErrArg)
}

// H1: what New makes, and refuses.
func TestNew(t *testing.T) {
	for _, budget := range []int{-1, -2, math.MinInt} {
		if s, e := halt.New(budget); s != nil || e != api.ErrArg {
			t.Errorf("New(%d): %v, %d", budget, s, e)
		}
	}
	is(t, "New(0)", made(t, 0), api.OK, -1)
	is(t, "New(1)", made(t, 1), api.OK, 1)
	is(t, "New of the greatest", made(t, math.MaxInt), api.OK, math.MaxInt)

	a, b := made(t, 5), made(t, 5)
	answers(t, "Cancel", a.Cancel(7), 7)
	is(t, "another one", b, api.OK, 5)
}

// H2: what Under makes, and refuses, of a stop that is cancelled too.
func TestUnder(t *testing.T) {
	a := made(t, 9)
	for _, budget := range []int{-1, math.MinInt} {
		if s, e := a.Under(budget); s != nil || e != api.ErrArg {
			t.Errorf("Under(%d): %v, %d", budget, s, e)
		}
	}
	is(t, "Under(0)", under(t, a, 0), api.OK, -1)
	is(t, "Under of more than above", under(t, a, 50), api.OK, 50)
	is(t, "above", a, api.OK, 9)
	a.Cancel(77)
	if s, e := a.Under(-1); s != nil || e != api.ErrArg {
		t.Errorf("Under(-1) of one that is cancelled: %v, %d", s, e)
	}
	late := under(t, a, 0)
	is(t, "beneath one that is cancelled", late, 77, -1)
	is(t, "beneath that", under(t, late, 4), 77, 4)
	answers(t, "its Spend", late.Spend(1), 77)
	answers(t, "its Cancel", late.Cancel(5), 77)
}

// H3: a reason, whatever number it is; the first one stays; OK is none.
func TestCancel(t *testing.T) {
	for _, why := range []api.Errno{1, -1, api.ErrHaltBudget, api.ErrHalted, math.MaxInt32, math.MinInt32} {
		s := made(t, 3)
		answers(t, "Cancel(OK)", s.Cancel(api.OK), api.ErrArg)
		is(t, "one that OK did not cancel", s, api.OK, 3)
		answers(t, "Cancel", s.Cancel(why), why)
		is(t, "one that is cancelled", s, why, 3)
		answers(t, "Cancel again", s.Cancel(why^64), why)
		answers(t, "Cancel(OK) again", s.Cancel(api.OK), api.ErrArg)
		is(t, "one that is cancelled again", s, why, 3)
	}
}

// H3, H5, P3.2: it reaches all beneath, none above or beside; those that had a reason keep it.
func TestCancelReaches(t *testing.T) {
	a := made(t, 0)
	b, c := under(t, a, 0), under(t, a, 0)
	d, e := under(t, b, 0), under(t, b, 0)
	f := under(t, d, 0)
	answers(t, "Cancel of d", d.Cancel(5), 5)
	is(t, "f beneath d", f, 5, -1)
	for what, s := range map[string]*halt.Stop{"a": a, "b": b, "c": c, "e": e} {
		is(t, what, s, api.OK, -1)
	}
	answers(t, "Cancel of b", b.Cancel(6), 6)
	is(t, "b", b, 6, -1)
	is(t, "e beneath b", e, 6, -1)
	is(t, "d", d, 5, -1)
	is(t, "f", f, 5, -1)
	is(t, "a above b", a, api.OK, -1)
	is(t, "c beside b", c, api.OK, -1)
	answers(t, "Cancel of a", a.Cancel(7), 7)
	is(t, "c beneath a", c, 7, -1)
	is(t, "b beneath a", b, 6, -1)
	is(t, "f at the end", f, 5, -1)
}

// H4: steps are spent of all that have a budget, or of none.
func TestSpend(t *testing.T) {
	free := made(t, 0)
	answers(t, "Spend without a budget", free.Spend(math.MaxInt), api.OK)
	is(t, "without a budget", free, api.OK, -1)
	for _, n := range []int{-1, math.MinInt} {
		answers(t, "Spend of less than nothing", free.Spend(n), api.ErrArg)
	}

	all := made(t, math.MaxInt)
	answers(t, "Spend of the greatest", all.Spend(math.MaxInt), api.OK)
	is(t, "the greatest", all, api.OK, 0)
	answers(t, "Spend(0) of nothing left", all.Spend(0), api.OK)
	is(t, "with nothing left", all, api.OK, 0)
	answers(t, "Spend(1) of nothing left", all.Spend(1), api.ErrHaltBudget)
	is(t, "used up", all, api.ErrHaltBudget, 0)
	answers(t, "Spend(0) behind it", all.Spend(0), api.ErrHaltBudget)
	answers(t, "Spend(-1) behind it", all.Spend(-1), api.ErrArg)

	s := made(t, 4)
	answers(t, "one too many", s.Spend(5), api.ErrHaltBudget)
	is(t, "one too many", s, api.ErrHaltBudget, 4)

	s = made(t, 4)
	s.Cancel(api.ErrHalted)
	answers(t, "Spend of one that is cancelled", s.Spend(1), api.ErrHalted)
	answers(t, "too much of one that is cancelled", s.Spend(5), api.ErrHalted)
	is(t, "one that is cancelled", s, api.ErrHalted, 4)
}

// H4: of several that have too little the lowest one is cancelled; steps are spent neither above nor beneath it.
func TestSpendUpwards(t *testing.T) {
	a := made(t, 2)
	b := under(t, a, 3)
	c := under(t, b, 0)
	d := under(t, c, 9)
	side := under(t, b, 1)
	answers(t, "Spend(1) of d", d.Spend(1), api.OK)
	for what, left := range map[*halt.Stop]int{a: 1, b: 2, c: -1, d: 8, side: 1} {
		is(t, "each", what, api.OK, left)
	}
	answers(t, "Spend(4) of d", d.Spend(4), api.ErrHaltBudget)
	is(t, "a: it has too little, but b is lower", a, api.OK, 1)
	is(t, "b", b, api.ErrHaltBudget, 2)
	is(t, "c", c, api.ErrHaltBudget, -1)
	is(t, "d", d, api.ErrHaltBudget, 8)
	is(t, "side", side, api.ErrHaltBudget, 1)
	answers(t, "Spend(1) of a", a.Spend(1), api.OK)
	answers(t, "Spend(1) of d", d.Spend(1), api.ErrHaltBudget)
	is(t, "a at the end", a, api.OK, 0)

	// one that is cancelled beneath another one spends nothing of that
	a = made(t, 10)
	b = under(t, a, 0)
	b.Cancel(8)
	answers(t, "Spend beneath", b.Spend(3), 8)
	is(t, "above", a, api.OK, 10)
}

// H5: the order of the calls: each branch whole, ahead of the next one; whenever After was handed them.
func TestOrder(t *testing.T) {
	var l log
	a := made(t, 0)
	b, c := under(t, a, 0), under(t, a, 0)
	d, e := under(t, b, 0), under(t, b, 0)
	f := under(t, d, 0)
	names := map[*halt.Stop]string{a: "a", b: "b", c: "c", d: "d", e: "e", f: "f"}
	for _, turn := range []string{"1", "2"} {
		for _, s := range []*halt.Stop{f, c, e, a, d, b} {
			s.After(l.note(names[s] + turn))
		}
	}
	answers(t, "Cancel", a.Cancel(9), 9)
	l.called(t, "all", 9, "a1 a2 b1 b2 d1 d2 f1 f2 e1 e2 c1 c2")
	a.Cancel(10)
	f.Cancel(11)
	l.called(t, "all, once", 9, "a1 a2 b1 b2 d1 d2 f1 f2 e1 e2 c1 c2")
}

// H5: what was cancelled ahead of it is called no more, with no other reason.
func TestOrderOfBranches(t *testing.T) {
	var l log
	a := made(t, 0)
	var stops []*halt.Stop
	for _, name := range strings.Fields("b c d e f") {
		s := under(t, a, 0)
		s.After(l.note(name))
		under(t, s, 0).After(l.note(name + name))
		stops = append(stops, s)
	}
	stops[1].Cancel(3)
	l.called(t, "c", 3, "c cc")
	l.calls = nil
	stops[3].Cancel(4)
	l.called(t, "e", 4, "e ee")
	l.calls = nil
	stops[0].Cancel(5)
	l.called(t, "b", 5, "b bb")
	l.calls = nil
	g := under(t, a, 0)
	g.After(l.note("g"))
	a.Cancel(6)
	l.called(t, "a", 6, "d dd f ff g")
}

// H5: all are cancelled, and their channels closed, ahead of the first call; a Spend that cancels calls just so.
func TestTwoSteps(t *testing.T) {
	a := made(t, 1)
	b := under(t, a, 0)
	c := under(t, b, 5)
	calls := 0
	look := func(why api.Errno) {
		calls++
		answers(t, "reason", why, api.ErrHaltBudget)
		is(t, "a", a, api.ErrHaltBudget, 1)
		is(t, "b", b, api.ErrHaltBudget, -1)
		is(t, "c", c, api.ErrHaltBudget, 5)
	}
	for _, s := range []*halt.Stop{a, b, c} {
		s.After(look)
	}
	answers(t, "Spend", c.Spend(2), api.ErrHaltBudget)
	if calls != 3 {
		t.Errorf("%d calls when Spend has answered, not 3", calls)
	}
}

// hand tells which goroutine it is called by.
func hand() string {
	b := make([]byte, 64)
	return strings.Fields(string(b[:runtime.Stack(b, false)]))[1]
}

// H5, H6: functions are called by the goroutine of the call.
func TestHand(t *testing.T) {
	var hands []string
	note := func(api.Errno) { hands = append(hands, hand()) }
	a := made(t, 1)
	b := under(t, a, 0)
	c := under(t, b, 0)
	a.After(note)
	b.After(note)
	c.After(note)
	c.Cancel(1)
	b.Spend(2)
	c.After(note)
	if me := hand(); !slices.Equal(hands, []string{me, me, me, me}) {
		t.Errorf("called by %v, not by %s", hands, me)
	}
}

// H6: nil; one that waits; one of a stop that is cancelled; taken back once.
func TestAfter(t *testing.T) {
	var l log
	s := made(t, 0)
	none := s.After(nil)
	if none == nil || none() || none() {
		t.Error("nil is taken back")
	}
	first, second := s.After(l.note("first")), s.After(l.note("second"))
	third, fourth := s.After(l.note("third")), s.After(l.note("fourth"))
	if !second() || second() || !fourth() || fourth() {
		t.Error("what waits is taken back once")
	}
	l.called(t, "ahead of it", api.OK, "")
	s.Cancel(4)
	l.called(t, "what waited", 4, "first third")
	if first() || second() || third() || fourth() || none() {
		t.Error("what waits no more is taken back")
	}
	late := s.After(l.note("late"))
	l.called(t, "at once", 4, "first third late")
	if late == nil || late() || late() {
		t.Error("what was called is taken back")
	}
	if none := s.After(nil); none == nil || none() {
		t.Error("nil is taken back of one that is cancelled")
	}
	l.called(t, "at the end", 4, "first third late")
}

// H6: one function handed twice is two.
func TestAfterTwice(t *testing.T) {
	var l log
	s := made(t, 0)
	f := l.note("f")
	first := s.After(f)
	second := s.After(f)
	s.After(f)
	if !second() || second() {
		t.Error("the second one")
	}
	s.Cancel(4)
	l.called(t, "both", 4, "f f")
	if first() {
		t.Error("the first one")
	}
}

// H5, H6: of what is being called, and of what waits for its turn, also within another branch.
func TestBackMeanwhile(t *testing.T) {
	var l log
	a := made(t, 0)
	b, c := under(t, a, 0), under(t, a, 0)
	var self, ahead, behind, far, deep func() bool
	ahead = a.After(l.note("ahead"))
	self = a.After(func(why api.Errno) {
		l.note("self")(why)
		if self() || ahead() {
			t.Error("what is being called, or was, is taken back")
		}
		if !behind() || behind() || !far() || far() {
			t.Error("what waits for its turn is taken back once")
		}
	})
	behind = a.After(l.note("behind"))
	a.After(l.note("end"))
	far = b.After(l.note("far"))
	b.After(l.note("near"))
	c.After(func(why api.Errno) {
		l.note("c")(why)
		if !deep() {
			t.Error("what is beneath waits still")
		}
	})
	deep = under(t, c, 0).After(l.note("deep"))
	a.Cancel(6)
	l.called(t, "what waited", 6, "ahead self end near c")
	if behind() || far() || deep() {
		t.Error("at the end")
	}
}

// H6: while others are being called, what is handed to After is called at once, ahead of those.
func TestAfterMeanwhile(t *testing.T) {
	var l log
	a := made(t, 0)
	b := under(t, a, 0)
	a.After(func(why api.Errno) {
		if a.After(l.note("own"))() || b.After(l.note("beneath"))() || under(t, b, 0).After(l.note("new"))() {
			t.Error("what was called is taken back")
		}
	})
	a.After(l.note("next"))
	b.After(l.note("b"))
	a.Cancel(8)
	l.called(t, "at once", 8, "own beneath new next b")
}

// H9, H5: a function may cancel and spend, of its own stop, of those above and beneath, of others.
func TestCancelMeanwhile(t *testing.T) {
	var l log
	top := made(t, 1)
	a, side := under(t, top, 0), under(t, top, 0)
	b := under(t, a, 0)
	other := made(t, 2)
	top.After(l.note("top"))
	side.After(l.note("side"))
	other.After(l.note("other"))
	a.After(func(why api.Errno) {
		l.note("a")(why)
		answers(t, "its own Cancel", a.Cancel(9), 5)
		answers(t, "its own Spend", a.Spend(1), 5)
		answers(t, "Cancel beneath", b.Cancel(9), 5)
		answers(t, "Spend of another", other.Spend(2), api.OK)
		answers(t, "Cancel of another", other.Cancel(5), 5)
		answers(t, "Spend above", top.Spend(1), api.OK)
		answers(t, "Cancel above", top.Cancel(5), 5)
	})
	b.After(l.note("b"))
	answers(t, "Cancel", a.Cancel(5), 5)
	l.called(t, "nested", 5, "a other top side b")
	is(t, "top", top, 5, 0)
}

// H7: what is left stays as it was when it was cancelled, by whichever way.
func TestLeft(t *testing.T) {
	a := made(t, 10)
	b := under(t, a, 20)
	b.Spend(3)
	b.Cancel(2)
	is(t, "b", b, 2, 17)
	is(t, "a", a, api.OK, 7)
	a.Spend(8)
	is(t, "a, one too many", a, api.ErrHaltBudget, 7)
	is(t, "b at the end", b, 2, 17)
}

// H8: the same channel each time, another one for each stop.
func TestDone(t *testing.T) {
	a := made(t, 0)
	b := under(t, a, 0)
	done, beneath := a.Done(), b.Done()
	if done == nil || beneath == nil || done == beneath {
		t.Fatal("a channel of its own for each")
	}
	if closed(done) || closed(beneath) {
		t.Error("closed too early")
	}
	b.Cancel(3)
	if closed(done) || !closed(beneath) {
		t.Error("b alone is closed")
	}
	a.Cancel(4)
	if !closed(done) || a.Done() != done || b.Done() != beneath {
		t.Error("the same, closed")
	}
	late := under(t, a, 0)
	if !closed(late.Done()) || late.Done() != late.Done() || late.Done() == done {
		t.Error("from the beginning")
	}
}

// A function that panics leaves no stop held.
func TestPanicHoldsNothing(t *testing.T) {
	a := made(t, 0)
	b := under(t, a, 0)
	a.After(func(api.Errno) { panic("its owner's concern") })
	back := b.After(func(api.Errno) {})
	func() {
		defer func() { recover() }()
		a.Cancel(3)
	}()
	is(t, "a", a, 3, -1)
	is(t, "b", b, 3, -1)
	if !back() {
		t.Error("it was never called")
	}
}

// Stops may stand one beneath the other as deep as DOC.md's limits go.
func TestDeep(t *testing.T) {
	top := made(t, 1)
	s := top
	calls := 0
	for range 1 << 16 {
		s = under(t, s, 0)
		s.After(func(api.Errno) { calls++ })
	}
	answers(t, "Spend(1)", s.Spend(1), api.OK)
	answers(t, "Spend(1) again", s.Spend(1), api.ErrHaltBudget)
	is(t, "the lowest one", s, api.ErrHaltBudget, -1)
	if calls != 1<<16 {
		t.Errorf("%d calls", calls)
	}
}
