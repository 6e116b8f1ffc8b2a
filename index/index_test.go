package index_test

import (
	"math"
	"slices"
	"testing"

	"spoor/api"
	"spoor/index"
)

func set(t *testing.T, x *index.Index, trace api.TraceID, l ...api.Span) {
	t.Helper()
	if e := x.Set(trace, l); e != api.OK {
		t.Fatalf("%v: %v", trace, e)
	}
}

// has tells what an index must say of a term.
func has(t *testing.T, x *index.Index, tm api.Term, want ...api.TraceID) {
	t.Helper()
	if n := x.Count(tm); n != len(want) {
		t.Errorf("%q: %d, not %d", tm, n, len(want))
	}
	if l := x.Traces(tm); !slices.Equal(l, want) {
		t.Errorf("%q: %v, not %v", tm, l, want)
	}
}

func candidates(t *testing.T, x *index.Index, q api.Query) []api.TraceID {
	t.Helper()
	l, e := x.Candidates(q)
	if e != api.OK {
		t.Fatalf("%+v: %v", q, e)
	}
	return l
}

func asked(t *testing.T, x *index.Index, s string, want ...api.TraceID) {
	t.Helper()
	if l := candidates(t, x, read(t, s)); !slices.Equal(l, want) {
		t.Errorf("%s: %v, not %v", s, l, want)
	}
}

// The chapter's examples, one behind the other.
func TestIndexExamples(t *testing.T) {
	x := index.New()
	set(t, x, lo(1), example(lo(1)))
	has(t, x, term("kind", "client"), lo(1))
	asked(t, x, `{}`, lo(1))
	if e := x.Set(lo(2), []api.Span{example(lo(1))}); e != api.ErrArg {
		t.Error(e)
	}
	asked(t, x, `{}`, lo(1))
	set(t, x, lo(1))
	asked(t, x, `{}`)
	has(t, x, term("kind", "client"))
}

// X3: in a new one no trace has anything; several have nothing to do with one another.
func TestNew(t *testing.T) {
	x, other := index.New(), index.New()
	if x == nil || other == nil {
		t.Fatal("nil")
	}
	asked(t, x, `{}`)
	asked(t, x, `{service = "a"}`)
	has(t, x, term("service", "a"))
	has(t, x, term("", ""))
	set(t, x, lo(1), example(lo(1)))
	asked(t, other, `{}`)
	has(t, other, term("service", "a"))
	asked(t, index.New(), `{}`)
}

// three is an index of three traces: 0/5 calls a and b, 1/2 only a, 2/0 only b.
func three(t *testing.T) *index.Index {
	x := index.New()
	set(t, x, api.TraceID{Hi: 2}, plain(api.TraceID{Hi: 2}, 1, "b", "z"))
	set(t, x, lo(5), plain(lo(5), 1, "a", "x"), plain(lo(5), 2, "b", "y"))
	set(t, x, api.TraceID{Hi: 1, Lo: 2}, with(plain(api.TraceID{Hi: 1, Lo: 2}, 9, "a", "x"), func(s *api.Span) { s.Status = api.Failed }))
	return x
}

// X5: a trace has what one of its spans has; traces rise by Hi, then Lo.
func TestCountAndTraces(t *testing.T) {
	x := three(t)
	first, second, third := lo(5), api.TraceID{Hi: 1, Lo: 2}, api.TraceID{Hi: 2}
	has(t, x, term("service", "a"), first, second)
	has(t, x, term("service", "b"), first, third)
	has(t, x, term("op", "x"), first, second)
	has(t, x, term("op", "y"), first)
	has(t, x, term("op", "z"), third)
	has(t, x, term("kind", "internal"), first, second, third)
	has(t, x, term("status", "unset"), first, third)
	has(t, x, term("status", "failed"), second)
	for _, tm := range terms("service", "", "service", "c", "service", "A", "op", "a", "", "", "", "a", "kind", "", "kind", "0", "status", "fine", ".service", `"a`, "no", "\xff") {
		has(t, x, tm)
	}
}

// Traces rise by Hi, then Lo, as numbers without a sign, whatever order they came in.
func TestTracesRise(t *testing.T) {
	want := []api.TraceID{{Lo: 1}, {Lo: 2}, {Lo: 1 << 63}, {Lo: math.MaxUint64}, {Hi: 1}, {Hi: 1, Lo: 7}, {Hi: 256}, {Hi: 1 << 63}, {Hi: 1 << 63, Lo: 1}, {Hi: math.MaxUint64, Lo: math.MaxUint64}}
	x := index.New()
	for i := range want {
		trace := want[i*7%len(want)]
		set(t, x, trace, plain(trace, 1, "a", "b"))
	}
	has(t, x, term("service", "a"), want...)
	asked(t, x, `{}`, want...)
	asked(t, x, `{service = "a"}`, want...)
}

// X6: all terms of the plan, in one span or in several.
func TestCandidates(t *testing.T) {
	x := three(t)
	first, second, third := lo(5), api.TraceID{Hi: 1, Lo: 2}, api.TraceID{Hi: 2}
	asked(t, x, `{}`, first, second, third)
	asked(t, x, `{dur > 5h}`, first, second, third)
	asked(t, x, `{service = "a"}`, first, second)
	asked(t, x, `{service = "b"}`, first, third)
	asked(t, x, `{service = "c"}`)
	asked(t, x, `{service = "a"} > {service = "b"}`, first)
	asked(t, x, `{service = "a" and op = "y"}`, first)
	asked(t, x, `{service = "a" and status = failed}`, second)
	asked(t, x, `{service = "a"} && {service = "c"}`)
	asked(t, x, `{service = "a"} || {service = "b"}`, first, second, third)
	asked(t, x, `{service = "a"} || {service = "a" and op = "y"}`, first, second)
	asked(t, x, `{kind = internal and op = "z" and status = unset} | count > 100`, third)
	asked(t, x, `{not service = "a"}`, first, second, third)
}

// X4: from then on a trace has these spans, and no others.
func TestSetAgain(t *testing.T) {
	x := three(t)
	first, second, third := lo(5), api.TraceID{Hi: 1, Lo: 2}, api.TraceID{Hi: 2}
	set(t, x, first, plain(first, 1, "b", "y"))
	has(t, x, term("service", "a"), second)
	has(t, x, term("op", "x"), second)
	has(t, x, term("op", "y"), first)
	has(t, x, term("service", "b"), first, third)
	asked(t, x, `{service = "a"}`, second)
	set(t, x, first, plain(first, 1, "b", "y"), plain(first, 2, "a", "w"))
	has(t, x, term("service", "a"), first, second)
	has(t, x, term("op", "w"), first)
	set(t, x, first, plain(first, 1, "b", "y"), plain(first, 2, "a", "w"))
	has(t, x, term("service", "a"), first, second)
	set(t, x, second)
	has(t, x, term("service", "a"), first)
	has(t, x, term("status", "failed"))
	asked(t, x, `{}`, first, third)
	set(t, x, second, plain(second, 1, "a", "x"))
	asked(t, x, `{}`, first, second, third)
	has(t, x, term("op", "x"), second)
	has(t, x, term("status", "failed"))
}

// Of an ID that stands there twice, both count; what stands there twice whole counts once.
func TestSetTwice(t *testing.T) {
	x := index.New()
	set(t, x, lo(1), plain(lo(1), 1, "a", "x"), plain(lo(1), 1, "b", "y"), plain(lo(1), 1, "a", "x"))
	for _, tm := range terms("service", "a", "service", "b", "op", "x", "op", "y") {
		has(t, x, tm, lo(1))
	}
	asked(t, x, `{service = "a"} > {op = "y"}`, lo(1))
	set(t, x, lo(1), plain(lo(1), 1, "b", "y"))
	has(t, x, term("service", "a"))
	has(t, x, term("service", "b"), lo(1))
}

// A trace that never had spans may be set to none, 0/0 too.
func TestSetToNone(t *testing.T) {
	x := index.New()
	for _, l := range [][]api.Span{nil, {}} {
		for _, trace := range []api.TraceID{{}, {Lo: 1}, {Hi: math.MaxUint64}} {
			if e := x.Set(trace, l); e != api.OK {
				t.Error(trace, e)
			}
		}
	}
	asked(t, x, `{}`)
}

// Wrong spans, wherever they stand, change nothing.
func TestSetRefuses(t *testing.T) {
	x := three(t)
	trace, other := lo(5), lo(6)
	good := plain(trace, 3, "c", "c")
	var lists [][]api.Span
	for _, s := range append(broken(trace), plain(other, 3, "c", "c"), plain(api.TraceID{Hi: 5}, 3, "c", "c"), plain(api.TraceID{Hi: 1, Lo: 5}, 3, "c", "c"), plain(api.TraceID{}, 3, "c", "c"), api.Span{}) {
		lists = append(lists, []api.Span{s}, []api.Span{s, good}, []api.Span{good, s}, []api.Span{good, s, good})
	}
	for _, l := range lists {
		if e := x.Set(trace, l); e != api.ErrArg {
			t.Errorf("%+v: %v", l, e)
		}
	}
	for _, l := range [][]api.Span{{good}, {plain(api.TraceID{}, 3, "c", "c")}} { // nothing is of the trace 0/0
		if e := x.Set(api.TraceID{}, l); e != api.ErrArg {
			t.Errorf("%+v: %v", l, e)
		}
	}
	if e := x.Set(other, []api.Span{good}); e != api.ErrArg {
		t.Error(e)
	}
	has(t, x, term("service", "c"))
	has(t, x, term("service", "a"), trace, api.TraceID{Hi: 1, Lo: 2})
	has(t, x, term("op", "y"), trace)
	asked(t, x, `{}`, trace, api.TraceID{Hi: 1, Lo: 2}, api.TraceID{Hi: 2})
}
