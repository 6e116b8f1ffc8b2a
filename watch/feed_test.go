package watch_test

import (
	"fmt"
	"math"
	"slices"
	"testing"

	"spoor/api"
	"spoor/watch"
)

// W2: what is refused changes nothing.
func TestFeedRefuses(t *testing.T) {
	h := watch.New()
	opened(t, h, `{}`, 1)
	feed(t, h, upTo(t, 2))
	for range 3 {
		if h.Feed(api.TraceID{}, upTo(t, 5)) != api.ErrArg || h.Feed(seven, nil) != api.ErrArg {
			t.Error("it is not refused")
		}
	}
	waits(t, h, 0, 1)
	took(t, h, 0, 9, 1, hits(1)...)
}

// W2: a forest without spans may be fed, and has nothing.
func TestFeedOfNothing(t *testing.T) {
	h := watch.New()
	opened(t, h, `{}`, 1)
	feed(t, h, built(t))
	took(t, h, 0, 9, 0)
	feed(t, h, of(t, 4))
	feed(t, h, built(t))
	took(t, h, 0, 9, 0, hits(4)...)
}

// W2: a name is not nothing if one of its halves is 0; hits of unlike traces are unlike, whatever the spans say.
func TestNameOfTheTrace(t *testing.T) {
	h := watch.New()
	opened(t, h, `{}`, 100)
	f := of(t, 3, 1)
	var want []api.Hit
	for _, name := range []api.TraceID{{Hi: 7}, {Lo: 7}, {Hi: 7, Lo: 7}, {Hi: math.MaxUint64, Lo: 1}, {Hi: 1, Lo: math.MaxUint64}, {Lo: 1}} {
		for range 2 {
			if e := h.Feed(name, f); e != api.OK {
				t.Error(name, e)
			}
		}
		want = append(want, api.Hit{Trace: name, ID: 1}, api.Hit{Trace: name, ID: 3})
	}
	took(t, h, 0, 100, 0, want...)
}

// W2: of one Feed the IDs rise, whatever order the spans and the stages have; of several the elder Feed is first.
func TestOrderOfFeeds(t *testing.T) {
	h := watch.New()
	opened(t, h, `{}`, 100)
	feed(t, h, of(t, 8, math.MaxUint64, 6))
	feed(t, h, of(t, 9, 8, 1, 5, 6, math.MaxUint64))
	feed(t, h, of(t, 2))
	took(t, h, 0, 100, 0, hits(6, 8, math.MaxUint64, 1, 5, 9, 2)...)

	w := opened(t, h, `{} | top 2 by dur`, 100)
	slow := func(id api.SpanID, end int64) api.Span {
		return with(one(seven, id), func(s *api.Span) { s.End = end })
	}
	feed(t, h, built(t, slow(1, 5), slow(2, 8), slow(3, 9)))
	feed(t, h, built(t, slow(1, 10), slow(2, 8), slow(3, 9)))
	feed(t, h, built(t, slow(1, 10), slow(2, 11), slow(3, 9)))
	took(t, h, w, 100, 0, hits(2, 3, 1)...)
}

// W2: what a query finds no more, and then anew, was found already.
func TestFoundAgain(t *testing.T) {
	h := watch.New()
	opened(t, h, `{status = failed}`, 9)
	is := func(l ...api.Status) {
		t.Helper()
		var spans []api.Span
		for i, s := range l {
			spans = append(spans, with(one(seven, api.SpanID(i+1)), func(x *api.Span) { x.Status = s }))
		}
		feed(t, h, built(t, spans...))
	}
	is(api.Fine, api.Failed, api.Unset)
	is(api.Fine, api.Fine)
	is(api.Fine, api.Failed, api.Unset)
	took(t, h, 0, 9, 0, hits(2)...)
	is(api.Failed, api.Failed, api.Failed)
	is(api.Fine, api.Fine, api.Fine)
	took(t, h, 0, 9, 0, hits(1, 3)...)
	is(api.Failed, api.Failed, api.Failed)
	took(t, h, 0, 9, 0)
}

// W2: what had no room is lost for good, and counted once; what comes when there is room again waits.
func TestLost(t *testing.T) {
	h := watch.New()
	opened(t, h, `{}`, 2)
	feed(t, h, of(t, 1, 2, 3, 4))
	feed(t, h, of(t, 1, 2, 3, 4, 5))
	waits(t, h, 0, 2)
	took(t, h, 0, 1, 3, hits(1)...)
	feed(t, h, of(t, 1, 2, 3, 4, 5, 6, 7))
	waits(t, h, 0, 2)
	took(t, h, 0, 9, 1, hits(2, 6)...)
	for id := range api.SpanID(9) {
		feed(t, h, of(t, id+1))
	}
	took(t, h, 0, 9, 0, hits(8, 9)...)
}

// W2: each room there may be at its edges.
func TestRoom(t *testing.T) {
	h := watch.New()
	all := upTo(t, 1000)
	for w, room := range []int{1, 2, 500, 999, 1000} {
		opened(t, h, `{}`, room)
		feed(t, h, all)
		waits(t, h, w, room)
		if h.Feed(api.TraceID{Hi: 1}, of(t, 1, 2)) != api.OK {
			t.Fatal("Feed")
		}
		l, lost, e := h.Take(w, math.MaxInt)
		if len(l) != room || lost != 1002-room || e != api.OK || l[0] != hits(1)[0] || l[room-1] != hits(api.SpanID(room))[0] {
			t.Errorf("room %d: %d hits, lost %d, %v", room, len(l), lost, e)
		}
		feed(t, h, all)
		took(t, h, w, 1, 0)
	}
}

// W3: so many as are asked for, or all; what was taken waits no more.
func TestTakeSome(t *testing.T) {
	for most := range 8 {
		h := watch.New()
		opened(t, h, `{}`, 9)
		feed(t, h, upTo(t, 5))
		want := hits(1, 2, 3, 4, 5)
		for range 4 {
			n := min(most, len(want))
			took(t, h, 0, most, 0, want[:n]...)
			want = want[n:]
			waits(t, h, 0, len(want))
		}
	}
}

// W3: a Take of none tells how many were lost; one that is refused does not, and takes nothing.
func TestTakeOfNone(t *testing.T) {
	h := watch.New()
	opened(t, h, `{}`, 1)
	feed(t, h, upTo(t, 4))
	for _, most := range []int{-1, math.MinInt} {
		if l, lost, e := h.Take(0, most); len(l) != 0 || lost != 0 || e != api.ErrArg {
			t.Errorf("Take(0, %d): %v, %d, %v", most, l, lost, e)
		}
	}
	waits(t, h, 0, 1)
	took(t, h, 0, 0, 3)
	took(t, h, 0, 0, 0)
	waits(t, h, 0, 1)
	feed(t, h, upTo(t, 5))
	took(t, h, 0, math.MaxInt, 1, hits(1)...)
}

// W3: Waiting changes nothing.
func TestWaiting(t *testing.T) {
	h := watch.New()
	opened(t, h, `{}`, 3)
	waits(t, h, 0, 0)
	for n := range 6 {
		feed(t, h, upTo(t, n))
		waits(t, h, 0, min(n, 3))
		waits(t, h, 0, min(n, 3))
	}
	took(t, h, 0, 2, 2, hits(1, 2)...)
	waits(t, h, 0, 1)
}

// W2: what was fed ahead of Open is found when it is fed anew.
func TestOpenedLate(t *testing.T) {
	h := watch.New()
	feed(t, h, upTo(t, 2))
	opened(t, h, `{}`, 9)
	waits(t, h, 0, 0)
	feed(t, h, of(t, 2, 3))
	opened(t, h, `{}`, 9)
	took(t, h, 0, 9, 0, hits(2, 3)...)
	took(t, h, 1, 9, 0)
	feed(t, h, upTo(t, 3))
	took(t, h, 0, 9, 0, hits(1)...)
	took(t, h, 1, 9, 0, hits(1, 2, 3)...)
}

// Each watch asks its own query, all of it: sets, conditions, stages.
func TestQueries(t *testing.T) {
	h := watch.New()
	for s, want := range map[string][]api.Hit{
		`{}`:                                hits(1, 2, 3, 4, 9),
		`{service = "db"}`:                  hits(2, 3, 9),
		`{service = "web"} > {}`:            hits(2, 3),
		`{service = "web"} >> {}`:           hits(2, 3, 4),
		`{status = failed} ~ {}`:            hits(3),
		`{.rows >= 7} || {orphan = true}`:   hits(2, 9),
		`{status = failed} && {dur > 99}`:   nil,
		`{} | top 2 by dur`:                 hits(1, 3),
		`{service = "db"} | count > 3`:      nil,
		`{leaf = true} | sum dur = 7`:       hits(3, 4, 9),
		`{not (root = true or depth >= 2)}`: hits(2, 3),
	} {
		w := opened(t, h, s, 100)
		turn := func(id, parent api.SpanID, service string, start, end int64) api.Span {
			return with(one(seven, id), func(x *api.Span) { x.Parent, x.Service, x.Start, x.End = parent, service, start, end })
		}
		feed(t, h, built(t, turn(9, 8, "db", 20, 21), turn(4, 2, "disk", 5, 6), turn(1, 0, "web", 0, 10), turn(3, 1, "db", 4, 9),
			with(turn(2, 1, "db", 2, 6), func(x *api.Span) {
				x.Status, x.Attrs = api.Failed, []api.Attr{{Key: "rows", Value: api.Value{Kind: api.Int, Int: 7}}}
			})))
		l, lost, e := h.Take(w, 100)
		if lost != 0 || e != api.OK || !slices.Equal(l, want) {
			t.Errorf("%s: %v, not %v", s, l, want)
		}
	}
}

// A query whose tree is very deep, though its form is not nested, stands as well.
func TestDeepQuery(t *testing.T) {
	h := watch.New()
	deep := api.Expr{Op: api.OpSpans}
	for range 20000 {
		deep = api.Expr{Op: api.OpEither, Args: []api.Expr{deep, {Op: api.OpSpans}}}
	}
	if w, e := h.Open(api.Query{Set: deep}, 5); w != 0 || e != api.OK {
		t.Fatal(w, e)
	}
	feed(t, h, upTo(t, 2))
	took(t, h, 0, 5, 0, hits(1, 2)...)
}

// All 16 are fed by one Feed, each by its own room.
func TestManyWatches(t *testing.T) {
	h := watch.New()
	for w := range api.MaxWatches {
		opened(t, h, fmt.Sprintf(`{} | top %d by start`, w+1), 8)
	}
	feed(t, h, upTo(t, 20))
	for w := range api.MaxWatches {
		var ids []api.SpanID
		for i := range min(w+1, 8) {
			ids = append(ids, api.SpanID(i+1))
		}
		took(t, h, w, 100, max(0, w+1-8), hits(ids...)...)
	}
}
