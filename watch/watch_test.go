package watch_test

import (
	"math"
	"slices"
	"testing"

	"spoor/api"
	"spoor/forest"
	"spoor/halt"
	"spoor/lang"
	"spoor/watch"
)

// seven is the trace of the chapter's examples.
var seven = api.TraceID{Lo: 7}

func one(t api.TraceID, id api.SpanID) api.Span {
	return api.Span{Trace: t, ID: id, Service: "a", Op: "b", Start: 1, End: 2}
}

// with is a span in which something is turned.
func with(s api.Span, turn func(s *api.Span)) api.Span {
	turn(&s)
	return s
}

func built(t *testing.T, l ...api.Span) *forest.Forest {
	t.Helper()
	f, e := forest.Build(l)
	if e != api.OK || f == nil {
		t.Fatal(f, e)
	}
	return f
}

// upTo is a forest of the trace 0/7, with the spans 1 to n.
func upTo(t *testing.T, n int) *forest.Forest {
	t.Helper()
	var l []api.Span
	for i := range n {
		l = append(l, one(seven, api.SpanID(i+1)))
	}
	return built(t, l...)
}

// of is a forest of the trace 0/7, with spans of these IDs.
func of(t *testing.T, ids ...api.SpanID) *forest.Forest {
	t.Helper()
	var l []api.Span
	for _, id := range ids {
		l = append(l, one(seven, id))
	}
	return built(t, l...)
}

func read(t *testing.T, s string) api.Query {
	t.Helper()
	q, err := lang.Parse(s)
	if err != nil {
		t.Fatal(s, err)
	}
	return q
}

// opened is a watch that Open must not refuse.
func opened(t *testing.T, h *watch.Hub, s string, room int) int {
	t.Helper()
	w, e := h.Open(read(t, s), room)
	if e != api.OK {
		t.Fatalf("Open(%s, %d): %v", s, room, e)
	}
	return w
}

// feed feeds the trace 0/7.
func feed(t *testing.T, h *watch.Hub, f *forest.Forest) {
	t.Helper()
	if e := h.Feed(seven, f); e != api.OK {
		t.Fatal("Feed:", e)
	}
}

// hits are those of the trace 0/7.
func hits(ids ...api.SpanID) []api.Hit {
	var l []api.Hit
	for _, id := range ids {
		l = append(l, api.Hit{Trace: seven, ID: id})
	}
	return l
}

// took holds a Take against what it must tell.
func took(t *testing.T, h *watch.Hub, w, most, lost int, want ...api.Hit) {
	t.Helper()
	l, n, e := h.Take(w, most)
	if e != api.OK || n != lost || !slices.Equal(l, want) {
		t.Errorf("Take(%d, %d): %v, lost %d, %v; not %v, lost %d", w, most, l, n, e, want, lost)
	}
}

// waits holds how many wait.
func waits(t *testing.T, h *watch.Hub, w, want int) {
	t.Helper()
	if n, e := h.Waiting(w); n != want || e != api.OK {
		t.Errorf("Waiting(%d): %d, %v; not %d", w, n, e, want)
	}
}

// none holds that no watch of a number is open, whatever is called.
func none(t *testing.T, h *watch.Hub, w int) {
	t.Helper()
	for _, most := range []int{0, 1, -1, math.MaxInt, math.MinInt} {
		if l, lost, e := h.Take(w, most); len(l) != 0 || lost != 0 || e != api.ErrWatchNone {
			t.Errorf("Take(%d, %d): %v, %d, %v", w, most, l, lost, e)
		}
	}
	if n, e := h.Waiting(w); n != 0 || e != api.ErrWatchNone {
		t.Errorf("Waiting(%d): %d, %v", w, n, e)
	}
	if e := h.Close(w); e != api.ErrWatchNone {
		t.Errorf("Close(%d): %v", w, e)
	}
	told(t, h, w, nil, pair{err: api.ErrWatchNone})
}

// The chapter's first example.
func TestExampleOfTake(t *testing.T) {
	h := watch.New()
	if w := opened(t, h, `{}`, 2); w != 0 {
		t.Fatal(w)
	}
	feed(t, h, upTo(t, 2))
	waits(t, h, 0, 2)
	feed(t, h, upTo(t, 2))
	waits(t, h, 0, 2)
	feed(t, h, upTo(t, 3))
	waits(t, h, 0, 2)
	took(t, h, 0, 1, 1, hits(1)...)
	took(t, h, 0, 5, 0, hits(2)...)
	feed(t, h, upTo(t, 3))
	waits(t, h, 0, 0)
	took(t, h, 0, 5, 0)
}

// The chapter's second example.
func TestExampleOfErrors(t *testing.T) {
	h := watch.New()
	if w, e := h.Open(read(t, `{}`), 0); w != 0 || e != api.ErrArg {
		t.Error(w, e)
	}
	if w := opened(t, h, `{}`, 2); w != 0 {
		t.Error(w)
	}
	if _, _, e := h.Take(1, 0); e != api.ErrWatchNone {
		t.Error(e)
	}
	if _, _, e := h.Take(0, -1); e != api.ErrArg {
		t.Error(e)
	}
	if e := h.Close(0); e != api.OK {
		t.Error(e)
	}
	if e := h.Close(0); e != api.ErrWatchNone {
		t.Error(e)
	}
	if w := opened(t, h, `{}`, 1); w != 1 {
		t.Error(w)
	}
}

// The chapter's third example.
func TestExampleOfFollow(t *testing.T) {
	h := watch.New()
	opened(t, h, `{}`, 2)
	feed(t, h, upTo(t, 2))
	stop := made(t, 0)
	var l []pair
	for hit, e := range h.Follow(0, stop) {
		l = append(l, pair{hit, e})
		stop.Cancel(api.ErrHalted)
	}
	if !slices.Equal(l, []pair{{hit: hits(1)[0]}, {err: api.ErrHalted}}) {
		t.Error(l)
	}
	waits(t, h, 0, 1)
}

// The chapter's fourth example, on a hub with a watch and on one without.
func TestExampleOfFeed(t *testing.T) {
	h := watch.New()
	for range 2 {
		if e := h.Feed(seven, nil); e != api.ErrArg {
			t.Error(e)
		}
		if e := h.Feed(api.TraceID{}, upTo(t, 1)); e != api.ErrArg {
			t.Error(e)
		}
		if e := h.Feed(api.TraceID{}, nil); e != api.ErrArg {
			t.Error(e)
		}
		opened(t, h, `{}`, 2)
	}
	waits(t, h, 0, 0)
	took(t, h, 0, 5, 0)
}

// W1: a new hub has no watches; several have nothing to do with one another.
func TestNew(t *testing.T) {
	h, other := watch.New(), watch.New()
	for _, w := range []int{0, 1, -1, 15, 16, math.MaxInt, math.MinInt} {
		none(t, h, w)
	}
	feed(t, h, upTo(t, 3))
	opened(t, h, `{}`, 5)
	none(t, other, 0)
	if w := opened(t, other, `{}`, 5); w != 0 {
		t.Error(w)
	}
	feed(t, h, upTo(t, 1))
	waits(t, other, 0, 0)
	waits(t, h, 0, 1)
	if h.Close(0) != api.OK {
		t.Error("Close")
	}
	waits(t, other, 0, 0)
}

// wrong are queries that nobody writes.
func wrong() map[string]api.Query {
	spans := api.Expr{Op: api.OpSpans}
	round := api.Expr{Op: api.OpEither, Args: make([]api.Expr, 2)}
	round.Args[0], round.Args[1] = round, spans
	deep := api.Expr{Op: api.OpEq, Field: "root", Value: api.Value{Kind: api.Bool}}
	for range api.MaxDeep {
		deep = api.Expr{Op: api.OpNot, Args: []api.Expr{deep}}
	}
	return map[string]api.Query{
		"nothing":               {},
		"no set":                {Set: api.Expr{Op: api.OpEq, Field: "op"}},
		"a set of three":        {Set: api.Expr{Op: api.OpBoth, Args: []api.Expr{spans, spans, spans}}},
		"another operator":      {Set: api.Expr{Op: 99}},
		"no stage":              {Set: spans, Stages: []api.Stage{{}}},
		"a stage out of bounds": {Set: spans, Stages: []api.Stage{{Name: "top", Field: "dur", Int: 1001}}},
		"a tree within itself":  {Set: round},
		"too deep":              {Set: api.Expr{Op: api.OpSpans, Args: []api.Expr{deep}}},
	}
}

// W1: of several errors the first one; what is refused takes no number, and changes nothing.
func TestOpenRefuses(t *testing.T) {
	h := watch.New()
	refused := func(what string, q api.Query, room int, want api.Errno) {
		t.Helper()
		if w, e := h.Open(q, room); w != 0 || e != want {
			t.Errorf("%s, room %d: %d, %v; not %v", what, room, w, e, want)
		}
	}
	all := read(t, `{}`)
	rooms := []int{0, -1, 1001, math.MaxInt, math.MinInt}
	for range 2 {
		for what, q := range wrong() {
			for _, room := range append(rooms, 1, 1000) {
				refused(what, q, room, api.ErrLangTree)
			}
		}
		for _, room := range rooms {
			refused("a room that may not be", all, room, api.ErrArg)
		}
		for len(watches(h)) < api.MaxWatches {
			if w := opened(t, h, `{}`, 1000); w != len(watches(h))-1 {
				t.Error(w)
			}
		}
	}
	for range 3 {
		refused("the 17th", all, 1, api.ErrWatchMany)
	}
	feed(t, h, upTo(t, 2))
	for w := range api.MaxWatches {
		took(t, h, w, 9, 0, hits(1, 2)...)
	}
	none(t, h, 16)
	h.Close(7)
	if w := opened(t, h, `{}`, 1); w != 16 {
		t.Error(w)
	}
}

// watches are the numbers below 100 whose watches are open.
func watches(h *watch.Hub) []int {
	var l []int
	for w := range 100 {
		if _, e := h.Waiting(w); e == api.OK {
			l = append(l, w)
		}
	}
	return l
}

// W1: a number is how many were opened ahead; it is not given again; 16 are open at a time, not in all.
func TestNumbers(t *testing.T) {
	h := watch.New()
	var want []int
	for w := range 90 {
		if len(want) == api.MaxWatches {
			at := w * 5 % len(want)
			if _, e := h.Open(read(t, `{}`), 1); e != api.ErrWatchMany {
				t.Fatal(e)
			}
			if e := h.Close(want[at]); e != api.OK {
				t.Fatal(e)
			}
			none(t, h, want[at])
			want = slices.Delete(want, at, at+1)
		}
		if got := opened(t, h, `{}`, 1); got != w {
			t.Fatalf("the number %d, not %d", got, w)
		}
		want = append(want, w)
		if !slices.Equal(watches(h), want) {
			t.Fatalf("open are %v, not %v", watches(h), want)
		}
	}
	for _, w := range want {
		if h.Close(w) != api.OK {
			t.Error("Close", w)
		}
	}
	if w := opened(t, h, `{}`, 1); w != 90 {
		t.Error(w)
	}
}

// W1: a watch that is closed is fed no more, and its hits are gone; the others stay as they are.
func TestClose(t *testing.T) {
	h := watch.New()
	for range 3 {
		opened(t, h, `{}`, 2)
	}
	feed(t, h, upTo(t, 3))
	for _, w := range []int{-1, 3, math.MaxInt, math.MinInt} {
		if e := h.Close(w); e != api.ErrWatchNone {
			t.Errorf("Close(%d): %v", w, e)
		}
	}
	if e := h.Close(1); e != api.OK {
		t.Fatal(e)
	}
	none(t, h, 1)
	if w := opened(t, h, `{}`, 9); w != 3 {
		t.Error(w)
	}
	waits(t, h, 3, 0)
	feed(t, h, upTo(t, 4))
	none(t, h, 1)
	took(t, h, 0, 9, 2, hits(1, 2)...)
	took(t, h, 2, 9, 2, hits(1, 2)...)
	took(t, h, 3, 9, 0, hits(1, 2, 3, 4)...)
}

// made is a stop with a budget.
func made(t *testing.T, budget int) *halt.Stop {
	t.Helper()
	s, e := halt.New(budget)
	if e != api.OK {
		t.Fatal(e)
	}
	return s
}
