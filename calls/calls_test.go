package calls_test

import (
	"math"
	"slices"
	"testing"

	"spoor/api"
	"spoor/calls"
	"spoor/forest"
	"spoor/sketch"
)

const most uint64 = math.MaxUint64

var greatest = api.Nat{Hi: most, Lo: most}

// spanned is a span of a trace of which the calls are asked.
func spanned(id, parent api.SpanID, service string, start, end int64) api.Span {
	return api.Span{Trace: api.TraceID{Lo: 7}, ID: id, Parent: parent, Service: service, Op: "b", Start: start, End: end}
}

func failed(s api.Span) api.Span {
	s.Status = api.Failed
	return s
}

func built(t *testing.T, l ...api.Span) *forest.Forest {
	t.Helper()
	f, e := forest.Build(l)
	if e != api.OK {
		t.Fatal(e)
	}
	return f
}

func call(hour int64, from, to string, failed bool, took uint64) api.Call {
	return api.Call{Hour: hour, Edge: api.Edge{From: from, To: to}, Failed: failed, Took: took}
}

// list makes bars of their numbers and Counts, by twos.
func list(of ...uint64) []api.Bar {
	var l []api.Bar
	for i := 0; i < len(of); i += 2 {
		l = append(l, api.Bar{Index: int(of[i]), Count: of[i+1]})
	}
	return l
}

// small is a tally whose numbers are of 64 bits.
func small(n, errors, took uint64, bars ...uint64) api.Tally {
	return api.Tally{Calls: api.Nat{Lo: n}, Errors: api.Nat{Lo: errors}, Took: api.Nat{Lo: took}, Bars: list(bars...)}
}

// same tells whether tallies are; a list of no bars may be nil or empty.
func same(a, b api.Tally) bool {
	return a.Calls == b.Calls && a.Errors == b.Errors && a.Took == b.Took && slices.Equal(a.Bars, b.Bars)
}

// tells: is a call's answer this tally, which may be?
func tells(t *testing.T, what string, got api.Tally, e api.Errno, want api.Tally) {
	t.Helper()
	if e != api.OK || !same(got, want) || sketch.Check(got.Bars) != api.OK {
		t.Fatalf("%s is %v, %v, not %v", what, got, e, want)
	}
}

// refused: is a call's answer this error, and nothing beside it?
func refused(t *testing.T, what string, got api.Tally, e, want api.Errno) {
	t.Helper()
	if e != want || !same(got, api.Tally{}) {
		t.Fatalf("%s is %v, %v, not %v", what, got, e, want)
	}
}

func lists(t *testing.T, what string, got []api.Call, want ...api.Call) {
	t.Helper()
	if !slices.Equal(got, want) {
		t.Fatalf("%s: %v, not %v", what, got, want)
	}
}

// deltas: are these to be taken, and these to be put?
func deltas(t *testing.T, a, b, take, put []api.Call) {
	t.Helper()
	first, second := calls.Delta(a, b)
	lists(t, "to be taken", first, take...)
	lists(t, "to be put", second, put...)
}

// The chapter's first example.
func TestExampleOf(t *testing.T) {
	f := built(t, spanned(1, 0, "a", 0, 10), failed(spanned(2, 1, "c", api.Hour+2, api.Hour+6)), spanned(3, 2, "c", 0, 9),
		spanned(4, 3, "a", 5, 7), spanned(5, 9, "z", 5, 7))
	lists(t, "Of", calls.Of(f), call(1, "a", "c", true, 4), call(0, "c", "a", false, 2))
}

// The second one.
func TestExampleDelta(t *testing.T) {
	x, y, z := call(0, "a", "b", false, 1), call(0, "a", "b", false, 2), call(0, "a", "b", true, 0)
	deltas(t, []api.Call{y, x, x, z}, []api.Call{x, y, y}, []api.Call{x, z}, []api.Call{y})
}

// The third and the fourth one.
func TestExampleTallies(t *testing.T) {
	a := calls.One(call(0, "a", "b", true, 5))
	tells(t, "One", a, api.OK, small(1, 1, 5, 5, 1))
	b := calls.One(call(0, "a", "b", false, most))
	s, e := calls.Plus(a, b)
	tells(t, "Plus", s, e, api.Tally{Calls: api.Nat{Lo: 2}, Errors: api.Nat{Lo: 1}, Took: api.Nat{Hi: 1, Lo: 4}, Bars: list(5, 1, 1919, 1)})
	if n := calls.Cap(s.Took); n != most {
		t.Error("Cap is", n)
	}
	d, e := calls.Minus(s, b)
	tells(t, "Minus", d, e, a)
	d, e = calls.Minus(a, b)
	refused(t, "Minus", d, e, api.ErrCallsLess)
	s, e = calls.Plus(api.Tally{Calls: greatest}, small(1, 0, 0))
	tells(t, "Plus", s, e, api.Tally{Calls: greatest})
	s, e = calls.Plus(a, small(1, 1, 5, 5, 0))
	refused(t, "Plus", s, e, api.ErrSketchBars)
}

func TestOfNothing(t *testing.T) {
	lists(t, "of nil", calls.Of(nil))
	lists(t, "of no spans", calls.Of(built(t)))
	lists(t, "of a root", calls.Of(built(t, spanned(1, 0, "a", 0, 9))))
}

// A call is of a span and its own parent: not of others above it, nor of a root, whatever that names.
func TestWhichAreCalls(t *testing.T) {
	cases := []struct {
		what  string
		spans []api.Span
		want  []api.Call
	}{
		{"one service", []api.Span{spanned(1, 0, "a", 0, 9), spanned(2, 1, "a", 0, 9)}, nil},
		{"of a farther one the service is another one", []api.Span{spanned(1, 0, "a", 0, 9), spanned(2, 1, "b", 0, 8), spanned(3, 2, "b", 0, 7)},
			[]api.Call{call(0, "a", "b", false, 8)}},
		{"of a farther one the service is the same", []api.Span{spanned(1, 0, "a", 0, 9), spanned(2, 1, "b", 0, 8), spanned(3, 2, "a", 0, 7)},
			[]api.Call{call(0, "a", "b", false, 8), call(0, "b", "a", false, 7)}},
		{"an orphan", []api.Span{spanned(1, 0, "a", 0, 9), spanned(2, 9, "b", 0, 9)}, nil},
		{"beneath an orphan", []api.Span{spanned(2, 9, "b", 0, 9), spanned(3, 2, "c", 0, 9)}, []api.Call{call(0, "b", "c", false, 9)}},
		{"one that names itself", []api.Span{spanned(1, 1, "a", 0, 9), spanned(2, 1, "b", 0, 9)}, []api.Call{call(0, "a", "b", false, 9)}},
		{"a ring, cut at 5", []api.Span{spanned(7, 5, "c", 0, 7), spanned(5, 6, "a", 0, 5), spanned(6, 7, "b", 0, 6)},
			[]api.Call{call(0, "c", "b", false, 6), call(0, "a", "c", false, 7)}},
		{"services alike at their beginning, or but for a letter's size", []api.Span{spanned(1, 0, "web", 0, 9), spanned(2, 1, "web2", 0, 9), spanned(3, 1, "Web", 0, 9), spanned(4, 1, "we", 0, 9)},
			[]api.Call{call(0, "web", "web2", false, 9), call(0, "web", "Web", false, 9), call(0, "web", "we", false, 9)}},
		{"two trees", []api.Span{spanned(1, 0, "a", 0, 9), spanned(2, 0, "b", 0, 9), spanned(3, 1, "b", 0, 9), spanned(4, 2, "a", 0, 9)},
			[]api.Call{call(0, "a", "b", false, 9), call(0, "b", "a", false, 9)}},
	}
	for _, c := range cases {
		lists(t, c.what, calls.Of(built(t, c.spans...)), c.want...)
	}
}

// Calls stand by rising IDs: not by their times, by the trees, or in the order in which spans were handed in; several may be the same.
func TestOfRises(t *testing.T) {
	f := built(t, spanned(1<<50, 0, "r", 0, 90), spanned(9, 1<<50, "b", 0, 1), spanned(3, 9, "c", 50, 52), spanned(7, 1<<50, "d", 40, 43),
		spanned(5, 1<<50, "b", 0, 1), spanned(1<<40, 3, "e", 0, 9), spanned(2, 1<<40, "a", 0, 4), spanned(8, 0, "z", 0, 90), spanned(4, 8, "y", 0, 6))
	lists(t, "Of", calls.Of(f), call(0, "e", "a", false, 4), call(0, "b", "c", false, 2), call(0, "z", "y", false, 6), call(0, "r", "b", false, 1),
		call(0, "r", "d", false, 3), call(0, "r", "b", false, 1), call(0, "c", "e", false, 9))
}

// The hour is that of the Start, also at its first and last moment, and of the latest spans that may be.
func TestHours(t *testing.T) {
	cases := []struct {
		start, end int64
		hour       int64
		took       uint64
	}{
		{0, 0, 0, 0},
		{0, 5 * api.Hour, 0, 5 * api.Hour},
		{api.Hour - 1, api.Hour + 1, 0, 2},
		{api.Hour, api.Hour, 1, 0},
		{api.Hour + 1, api.Hour + 1, 1, 0},
		{2*api.Hour - 1, 2 * api.Hour, 1, 1},
		{2 * api.Hour, 3 * api.Hour, 2, api.Hour},
		{0, api.MaxTime, 0, api.MaxTime},
		{api.MaxTime, api.MaxTime, 1281023, 0},
		{1281023 * api.Hour, api.MaxTime, 1281023, 1<<62 - 1281023*api.Hour},
		{1281023*api.Hour - 1, api.MaxTime, 1281022, 1<<62 - 1281023*api.Hour + 1},
	}
	for _, c := range cases {
		f := built(t, spanned(1, 0, "a", 0, 9), spanned(2, 1, "b", c.start, c.end))
		lists(t, "hours", calls.Of(f), call(c.hour, "a", "b", false, c.took))
	}
}

// P14.4: the times are the span's own, whatever is left of them in its Clip.
func TestOwnTimes(t *testing.T) {
	f := built(t, spanned(1, 0, "a", 100, 200), spanned(2, 1, "b", 0, 150), spanned(3, 1, "c", 150, 900), spanned(4, 1, "d", 500, 600),
		spanned(5, 4, "e", 120, 130), spanned(6, 1, "f", 3*api.Hour, 3*api.Hour+7))
	lists(t, "Of", calls.Of(f), call(0, "a", "b", false, 150), call(0, "a", "c", false, 750), call(0, "a", "d", false, 100),
		call(0, "d", "e", false, 10), call(3, "a", "f", false, 7))
}

// Failed is the Status of the span alone: not that of the one above.
func TestWhichFailed(t *testing.T) {
	for _, above := range []api.Status{api.Unset, api.Fine, api.Failed} {
		for _, status := range []api.Status{api.Unset, api.Fine, api.Failed} {
			root, s := spanned(1, 0, "a", 0, 9), spanned(2, 1, "b", 0, 9)
			root.Status, s.Status = above, status
			lists(t, "Of", calls.Of(built(t, root, s)), call(0, "a", "b", status == api.Failed, 9))
		}
	}
}

// rising has calls in their order: each part of it decides, where all ahead of it are alike, also against all behind it.
func rising() []api.Call {
	return []api.Call{
		call(math.MinInt64, "z", "z", true, most),
		call(-1, "z", "z", true, most),
		call(0, "", "", false, 0),
		call(0, "", "", false, 1),
		call(0, "", "", true, 0),
		call(0, "", "z", true, most),
		call(0, "A", "z", true, 9),
		call(0, "a", "", false, 0),
		call(0, "a", "a", false, 0),
		call(0, "a", "a\x00", false, 0),
		call(0, "a", "b", false, 1),
		call(0, "a", "b", false, 2),
		call(0, "a", "b", false, 1<<63),
		call(0, "a", "b", false, most),
		call(0, "a", "b", true, 0),
		call(0, "a", "b", true, 10),
		call(0, "a", "b", true, most),
		call(0, "a", "ba", false, 0),
		call(0, "a", "c", false, 0),
		call(0, "a\x00", "b", false, 0),
		call(0, "aa", "a", false, 0),
		call(0, "b", "a", false, 0),
		call(0, "z", "", false, 0),
		call(0, "é", "", false, 0),
		call(0, "\xff", "", false, 0),
		call(1, "", "", false, 0),
		call(2, "", "", false, 0),
		call(10, "", "", false, 0),
		call(math.MaxInt64, "", "", false, 0),
	}
}

// Both lists are in the order of calls, whatever the calls are, and in whatever order they came.
func TestOrderOfCalls(t *testing.T) {
	l := rising()
	turned := slices.Clone(l)
	slices.Reverse(turned)
	deltas(t, turned, nil, l, nil)
	deltas(t, nil, turned, nil, l)
	for i, x := range l {
		for _, y := range l[i+1:] {
			deltas(t, []api.Call{y, x}, nil, []api.Call{x, y}, nil)
			deltas(t, []api.Call{x, y}, nil, []api.Call{x, y}, nil)
			deltas(t, []api.Call{x}, []api.Call{y}, []api.Call{x}, []api.Call{y})
			deltas(t, []api.Call{y, x, y}, []api.Call{x, y, x}, []api.Call{y}, []api.Call{x})
		}
	}
}

func TestDelta(t *testing.T) {
	x, y, z := call(0, "a", "b", false, 1), call(0, "a", "b", false, 2), call(0, "a", "b", true, 0)
	cases := []struct{ a, b, take, put []api.Call }{
		{nil, nil, nil, nil},
		{[]api.Call{}, nil, nil, nil},
		{[]api.Call{x}, nil, []api.Call{x}, nil},
		{nil, []api.Call{x}, nil, []api.Call{x}},
		{[]api.Call{x}, []api.Call{x}, nil, nil},
		{[]api.Call{x, x, x}, []api.Call{x}, []api.Call{x, x}, nil},
		{[]api.Call{x}, []api.Call{x, x, x}, nil, []api.Call{x, x}},
		{[]api.Call{z, x, y}, []api.Call{y, z, x}, nil, nil},
		{[]api.Call{z, z, x, y}, []api.Call{y, z, x, x}, []api.Call{z}, []api.Call{x}},
		{[]api.Call{x, z}, []api.Call{y}, []api.Call{x, z}, []api.Call{y}},
		{[]api.Call{y}, []api.Call{z, x}, []api.Call{y}, []api.Call{x, z}},
		{[]api.Call{z, y, z}, []api.Call{x, x}, []api.Call{y, z, z}, []api.Call{x, x}},
		{[]api.Call{{}}, []api.Call{{}, {}}, nil, []api.Call{{}}},
	}
	for _, c := range cases {
		deltas(t, c.a, c.b, c.take, c.put)
	}
}

func TestOne(t *testing.T) {
	cases := []struct {
		c    api.Call
		want api.Tally
	}{
		{api.Call{}, small(1, 0, 0, 0, 1)},
		{call(0, "a", "b", false, 5), small(1, 0, 5, 5, 1)},
		{call(0, "a", "b", true, 0), small(1, 1, 0, 0, 1)},
		{call(math.MinInt64, "", "", true, 63), small(1, 1, 63, 63, 1)},
		{call(7, "a", "a", false, 64), small(1, 0, 64, 64, 1)},
		{call(7, "a", "a", false, 65), small(1, 0, 65, 64, 1)},
		{call(7, "a", "a", false, 100), small(1, 0, 100, 82, 1)},
		{call(math.MaxInt64, "\xff", "\x00", true, most), small(1, 1, most, 1919, 1)},
	}
	for _, c := range cases {
		tells(t, "One", calls.One(c.c), api.OK, c.want)
	}
}

// numbers has pairs of natural numbers, with their sum.
func numbers() [][3]api.Nat {
	return [][3]api.Nat{
		{{}, {}, {}},
		{{Lo: 1}, {}, {Lo: 1}},
		{{Lo: 1}, {Lo: 2}, {Lo: 3}},
		{{Hi: 1}, {Lo: 1}, {Hi: 1, Lo: 1}},
		{{Hi: 5, Lo: 7}, {Hi: 3, Lo: 9}, {Hi: 8, Lo: 16}},
		// from the lower half into the higher one
		{{Lo: most}, {Lo: 1}, {Hi: 1}},
		{{Lo: most}, {Lo: most}, {Hi: 1, Lo: most - 1}},
		{{Lo: 1 << 63}, {Lo: 1 << 63}, {Hi: 1}},
		{{Lo: most - 1}, {Lo: 1}, {Lo: most}},
		{{Hi: 4, Lo: most}, {Hi: 2, Lo: 1}, {Hi: 7}},
		// up to the greatest, and beyond
		{greatest, {}, greatest},
		{{Hi: most, Lo: most - 1}, {Lo: 1}, greatest},
		{{Hi: most, Lo: most - 2}, {Lo: 1}, {Hi: most, Lo: most - 1}},
		{{Hi: most}, {Lo: most}, greatest},
		{{Hi: most - 1, Lo: most}, {Lo: 1}, {Hi: most}},
		{{Hi: 1 << 63}, {Hi: 1<<63 - 1, Lo: most}, greatest},
		{greatest, {Lo: 1}, greatest},
		{greatest, {Hi: 1}, greatest},
		{greatest, greatest, greatest},
		{{Hi: most, Lo: most - 1}, {Lo: 2}, greatest},
		{{Hi: most}, {Hi: 1}, greatest},
		{{Hi: most}, {Hi: 2, Lo: 7}, greatest},
		{{Hi: 1 << 63}, {Hi: 1 << 63}, greatest},
		{{Hi: 1 << 63, Lo: 5}, {Hi: 1 << 63, Lo: 6}, greatest},
		{{Hi: most - 1, Lo: 1}, {Hi: 1, Lo: most}, greatest},
		{{Hi: most - 1, Lo: most}, {Hi: 1, Lo: most}, greatest},
	}
}

// inEach has tallies with a number in one of their three places.
func inEach(n api.Nat) []api.Tally {
	return []api.Tally{{Calls: n}, {Errors: n}, {Took: n}}
}

// Each of the three numbers is the sum of both, in its own place, or the greatest.
func TestPlusNumbers(t *testing.T) {
	for _, x := range numbers() {
		want := inEach(x[2])
		for i := range want {
			s, e := calls.Plus(inEach(x[0])[i], inEach(x[1])[i])
			tells(t, "Plus", s, e, want[i])
			s, e = calls.Plus(inEach(x[1])[i], inEach(x[0])[i])
			tells(t, "Plus", s, e, want[i])
		}
		a := api.Tally{Calls: x[0], Errors: x[1], Took: x[0], Bars: list(3, 1)}
		b := api.Tally{Calls: x[1], Took: x[1], Bars: list(3, 1)}
		s, e := calls.Plus(a, b)
		tells(t, "Plus", s, e, api.Tally{Calls: x[2], Errors: x[1], Took: x[2], Bars: list(3, 2)})
	}
}

// Bars are merged, and no Count goes beyond its greatest.
func TestPlusBars(t *testing.T) {
	cases := []struct{ a, b, want []api.Bar }{
		{nil, nil, nil},
		{[]api.Bar{}, nil, nil},
		{list(5, 1), nil, list(5, 1)},
		{list(5, 1), list(5, 2), list(5, 3)},
		{list(5, 1, 9, 1), list(0, 4, 9, 1, 1919, 4), list(0, 4, 5, 1, 9, 2, 1919, 4)},
		{list(5, most), list(5, 1), list(5, most)},
		{list(5, most-1), list(5, 1), list(5, most)},
		{list(5, most-2, 6, 1), list(5, 1), list(5, most-1, 6, 1)},
	}
	for _, c := range cases {
		s, e := calls.Plus(api.Tally{Bars: c.a}, api.Tally{Bars: c.b})
		tells(t, "Plus", s, e, api.Tally{Bars: c.want})
		s, e = calls.Plus(api.Tally{Bars: c.b}, api.Tally{Bars: c.a})
		tells(t, "Plus", s, e, api.Tally{Bars: c.want})
	}
}

// A tally may be whatever its numbers are: they need not fit one another, nor the bars.
func TestNumbersNeedNotFit(t *testing.T) {
	odd := small(1, 9, 0, 5, 3)
	s, e := calls.Plus(odd, odd)
	tells(t, "Plus", s, e, small(2, 18, 0, 5, 6))
	s, e = calls.Minus(s, odd)
	tells(t, "Minus", s, e, odd)
	s, e = calls.Minus(small(0, 0, 7), api.Tally{})
	tells(t, "Minus", s, e, small(0, 0, 7))
	s, e = calls.Minus(small(3, 3, 7, 5, 1), small(0, 0, 0, 5, 1))
	tells(t, "Minus", s, e, small(3, 3, 7))
}

// bad has bars that may not be: each thing that may be wrong, first, last or in the middle.
func bad() [][]api.Bar {
	l := [][]api.Bar{list(5, 0), list(5, 1, 5, 1), list(5, 1, 4, 1), list(1920, 1), list(5, 0, 6, 1), list(5, 1, 6, 0), list(5, 1, 6, 0, 7, 1),
		list(1, 1, 5, 1, 3, 1), list(0, 0), list(1919, 1, 1920, 1), make([]api.Bar, 1920)}
	for _, i := range []int{-1, -1920, math.MinInt, math.MaxInt} {
		l = append(l, []api.Bar{{Index: i, Count: 1}}, append(list(5, 1), api.Bar{Index: i, Count: 1}))
	}
	return l
}

// A tally that may not be is refused wherever it stands, ahead of all else, with nothing beside the error.
func TestBadBars(t *testing.T) {
	others := append(inEach(greatest), api.Tally{}, small(1, 0, 5, 5, 1), small(0, 0, 0, 1919, most), small(9, 9, 9, 5, 0))
	for _, bars := range bad() {
		wrong := append(inEach(greatest), api.Tally{}, small(1, 1, 1))
		for i := range wrong {
			wrong[i].Bars = bars
			for _, other := range append(others, wrong[i]) {
				s, e := calls.Plus(wrong[i], other)
				refused(t, "Plus", s, e, api.ErrSketchBars)
				s, e = calls.Plus(other, wrong[i])
				refused(t, "Plus", s, e, api.ErrSketchBars)
				s, e = calls.Minus(wrong[i], other)
				refused(t, "Minus", s, e, api.ErrSketchBars)
				s, e = calls.Minus(other, wrong[i])
				refused(t, "Minus", s, e, api.ErrSketchBars)
			}
		}
	}
}

func TestMinus(t *testing.T) {
	cases := []struct{ a, b, want api.Tally }{
		{api.Tally{}, api.Tally{}, api.Tally{}},
		{small(3, 2, 9, 5, 3), api.Tally{}, small(3, 2, 9, 5, 3)},
		{small(3, 2, 9, 5, 3), small(3, 2, 9, 5, 3), api.Tally{}},
		{small(3, 2, 9, 5, 3), small(1, 1, 5, 5, 1), small(2, 1, 4, 5, 2)},
		{small(3, 2, 9, 2, 1, 5, 1, 7, 1), small(1, 1, 5, 5, 1), small(2, 1, 4, 2, 1, 7, 1)},
		{small(3, 0, 9, 5, most), small(3, 0, 9, 5, most-1), small(0, 0, 0, 5, 1)},
		{api.Tally{Calls: greatest, Errors: greatest, Took: greatest}, api.Tally{Calls: greatest, Errors: greatest, Took: greatest}, api.Tally{}},
		{api.Tally{Calls: greatest, Errors: greatest, Took: greatest}, small(1, 2, 3), api.Tally{Calls: api.Nat{Hi: most, Lo: most - 1}, Errors: api.Nat{Hi: most, Lo: most - 2}, Took: api.Nat{Hi: most, Lo: most - 3}}},
	}
	for _, c := range cases {
		d, e := calls.Minus(c.a, c.b)
		tells(t, "Minus", d, e, c.want)
	}
	// from the higher half into the lower one
	for i := range 3 {
		for _, x := range [][3]api.Nat{
			{{Hi: 1}, {Lo: 1}, {Lo: most}},
			{{Hi: 1}, {Lo: most}, {Lo: 1}},
			{{Hi: 1, Lo: 4}, {Lo: 5}, {Lo: most}},
			{{Hi: 7}, {Hi: 2, Lo: 1}, {Hi: 4, Lo: most}},
			{{Hi: 7, Lo: 1}, {Hi: 7}, {Lo: 1}},
			{{Hi: 7, Lo: 1}, {Hi: 7, Lo: 1}, {}},
			{{Hi: 7, Lo: 1}, {Hi: 6, Lo: 9}, {Lo: most - 7}},
		} {
			d, e := calls.Minus(inEach(x[0])[i], inEach(x[1])[i])
			tells(t, "Minus", d, e, inEach(x[2])[i])
		}
	}
}

// What has not as much, in one number or one bar, is refused, whatever else it has.
func TestMinusOfLess(t *testing.T) {
	full := api.Tally{Calls: api.Nat{Hi: 5, Lo: 5}, Errors: api.Nat{Hi: 5, Lo: 5}, Took: api.Nat{Hi: 5, Lo: 5}, Bars: list(5, 5, 9, 5)}
	for i := range 3 {
		for _, n := range []api.Nat{{Hi: 5, Lo: 6}, {Hi: 6}, {Hi: 6, Lo: 4}, {Hi: 6, Lo: 6}, {Hi: 5, Lo: most}, greatest} {
			d, e := calls.Minus(full, inEach(n)[i])
			refused(t, "Minus", d, e, api.ErrCallsLess)
		}
		for _, n := range []api.Nat{{Hi: 5, Lo: 5}, {Hi: 5, Lo: 4}, {Hi: 4, Lo: most}, {Lo: most}, {}} {
			if _, e := calls.Minus(full, inEach(n)[i]); e != api.OK {
				t.Errorf("Minus by %v is %v", n, e)
			}
		}
		d, e := calls.Minus(api.Tally{}, inEach(api.Nat{Lo: 1})[i])
		refused(t, "Minus", d, e, api.ErrCallsLess)
		d, e = calls.Minus(api.Tally{}, inEach(api.Nat{Hi: 1})[i])
		refused(t, "Minus", d, e, api.ErrCallsLess)
	}
	for _, bars := range [][]api.Bar{list(5, 6), list(9, 6), list(5, 5, 9, 6), list(6, 1), list(0, 1), list(1919, 1), list(5, 1, 7, 1, 9, 1), list(5, most)} {
		d, e := calls.Minus(full, api.Tally{Bars: bars})
		refused(t, "Minus", d, e, api.ErrCallsLess)
		d, e = calls.Minus(full, api.Tally{Calls: greatest, Bars: bars})
		refused(t, "Minus", d, e, api.ErrCallsLess)
		d, e = calls.Minus(api.Tally{Calls: greatest, Errors: greatest, Took: greatest}, api.Tally{Bars: bars})
		refused(t, "Minus", d, e, api.ErrCallsLess)
	}
}

func TestCap(t *testing.T) {
	cases := []struct {
		n    api.Nat
		want uint64
	}{
		{api.Nat{}, 0}, {api.Nat{Lo: 1}, 1}, {api.Nat{Lo: 1 << 63}, 1 << 63}, {api.Nat{Lo: most - 1}, most - 1}, {api.Nat{Lo: most}, most},
		{api.Nat{Hi: 1}, most}, {api.Nat{Hi: 1, Lo: 4}, most}, {api.Nat{Hi: 1 << 63}, most}, {api.Nat{Hi: most, Lo: 1}, most}, {greatest, most},
	}
	for _, c := range cases {
		if got := calls.Cap(c.n); got != c.want {
			t.Errorf("Cap of %v is %d, not %d", c.n, got, c.want)
		}
	}
}
