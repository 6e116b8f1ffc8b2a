package store_test

import (
	"math"
	"reflect"
	"slices"
	"strings"
	"testing"

	"spoor/api"
	"spoor/store"
)

func lo(n uint64) api.TraceID { return api.TraceID{Lo: n} }

// one is a span of the chapter's examples.
func one(t api.TraceID, id api.SpanID, end int64) api.Span {
	return api.Span{Trace: t, ID: id, Service: "s", Op: "o", End: end}
}

// row has the spans of a trace with the IDs from first up to last.
func row(t api.TraceID, first, last api.SpanID) []api.Span {
	var l []api.Span
	for id := first; id <= last; id++ {
		l = append(l, one(t, id, 5))
	}
	return l
}

// with is a span in which something is turned.
func with(s api.Span, turn func(s *api.Span)) api.Span {
	turn(&s)
	return s
}

// rich has something in every field.
func rich(t api.TraceID, id api.SpanID) api.Span {
	return api.Span{
		Trace: t, ID: id, Parent: 9, Links: []api.SpanID{1 << 40, 1 << 50}, Service: "web", Op: "get all", Kind: api.Client, Status: api.Fine,
		Start: 10, End: 20,
		Attrs:  []api.Attr{{Key: "a", Value: api.Value{Text: "x"}}, {Key: "b", Value: api.Value{Kind: api.Int, Int: -7}}},
		Events: []api.Event{{At: 11, Name: "e"}, {At: 12, Name: "f"}},
	}
}

func filled(t *testing.T, lists ...[]api.Span) *store.Store {
	t.Helper()
	s := store.New()
	for _, l := range lists {
		if _, e := s.Put(l); e != api.OK {
			t.Fatal(e)
		}
	}
	return s
}

func all(s *store.Store) []api.Span { return slices.Collect(s.All()) }

// has: does the store have just these spans, by every call that tells them?
func has(t *testing.T, what string, s *store.Store, want []api.Span) {
	t.Helper()
	if got := all(s); s.Count() != len(want) || len(got) != len(want) || len(got) > 0 && !reflect.DeepEqual(got, want) {
		t.Fatalf("%s: %d spans %+v, not %d %+v", what, s.Count(), got, len(want), want)
	}
	var traces []api.TraceID
	from := 0
	for i, x := range want {
		if got, is := s.Get(x.Trace, x.ID); !is || !reflect.DeepEqual(got, x) {
			t.Fatalf("%s: Get: %+v, %v, not %+v", what, got, is, x)
		}
		if i+1 < len(want) && want[i+1].Trace == x.Trace {
			continue
		}
		traces = append(traces, x.Trace)
		if got := s.Trace(x.Trace); !reflect.DeepEqual(got, want[from:i+1]) {
			t.Fatalf("%s: Trace: %+v, not %+v", what, got, want[from:i+1])
		}
		from = i + 1
	}
	if got := s.Traces(); !slices.Equal(got, traces) {
		t.Fatalf("%s: Traces: %v, not %v", what, got, traces)
	}
}

func lacks(t *testing.T, s *store.Store, trace api.TraceID, id api.SpanID) {
	t.Helper()
	if x, is := s.Get(trace, id); is || !reflect.DeepEqual(x, api.Span{}) {
		t.Errorf("%v %v: %+v, %v", trace, id, x, is)
	}
}

func puts(t *testing.T, s *store.Store, l []api.Span, want ...api.Change) {
	t.Helper()
	if got, e := s.Put(l); e != api.OK || !slices.Equal(got, want) {
		t.Fatalf("%v, %v, not %v", got, e, want)
	}
}

// refuses: do Fits and Put tell this error, with nothing beside it, and nothing changed?
func refuses(t *testing.T, what string, s *store.Store, l []api.Span, want api.Errno) {
	t.Helper()
	before := all(s)
	if e := s.Fits(l); e != want {
		t.Errorf("%s: Fits: %v, not %v", what, e, want)
	}
	if got, e := s.Put(l); e != want || len(got) != 0 {
		t.Errorf("%s: Put: %v, %v, not %v", what, got, e, want)
	}
	has(t, what, s, before)
}

// The chapter's examples.
func TestExamples(t *testing.T) {
	s := store.New()
	a, b, c, d := one(lo(1), 1, 5), one(lo(1), 1, 6), one(lo(1), 2, 5), one(lo(0), 1, 5)
	puts(t, s, []api.Span{a, c}, api.Fresh, api.Fresh)
	has(t, "a, c", s, []api.Span{a, c})
	puts(t, s, []api.Span{b, a, a}, api.Better, api.Kept, api.Kept)
	if x, is := s.Get(lo(1), 1); !is || !reflect.DeepEqual(x, b) {
		t.Error(x, is)
	}
	refuses(t, "c, d", s, []api.Span{c, d}, api.ErrSpanID)
	if n := s.Count(); n != 2 {
		t.Error(n)
	}
	if e := s.Fits(row(lo(1), 2, 1000)); e != api.OK {
		t.Error(e)
	}
	refuses(t, "2 to 1001", s, row(lo(1), 2, 1001), api.ErrStoreTrace)
	has(t, "b, c", s, []api.Span{b, c})
	if l := s.Trace(lo(2)); len(l) != 0 {
		t.Error(l)
	}
	if e := s.Merge(nil); e != api.ErrArg {
		t.Error(e)
	}
	has(t, "b, c", s, []api.Span{b, c})
}

// S1: a new store has nothing, and lists of nothing may be put into it; two stores have nothing to do with one another.
func TestNew(t *testing.T) {
	s, o := store.New(), store.New()
	has(t, "new", s, nil)
	for _, l := range [][]api.Span{nil, {}} {
		if e := s.Fits(l); e != api.OK {
			t.Error(e)
		}
		puts(t, s, l)
		has(t, "nothing", s, nil)
	}
	puts(t, s, row(lo(1), 1, 1), api.Fresh)
	has(t, "the other one", o, nil)
	lacks(t, o, lo(1), 1)
}

// S2: there is a telling of each span that may not be, which Fits and Put answer whatever stands around it, and ahead of all that has no room.
func TestMayNotBe(t *testing.T) {
	bad := []struct {
		e    api.Errno
		turn func(s *api.Span)
	}{
		{api.ErrSpanID, func(s *api.Span) { s.ID = 0 }},
		{api.ErrSpanTime, func(s *api.Span) { s.Start = s.End + 1 }},
		{api.ErrSpanName, func(s *api.Span) { s.Service = "a b" }},
		{api.ErrSpanKind, func(s *api.Span) { s.Kind = 5 }},
		{api.ErrSpanLinks, func(s *api.Span) { s.Links = []api.SpanID{3, 2} }},
		{api.ErrSpanAttrs, func(s *api.Span) { s.Attrs = []api.Attr{{Key: "K"}} }},
		{api.ErrSpanEvents, func(s *api.Span) { s.Events = []api.Event{{At: -1, Name: "e"}} }},
	}
	good := one(lo(1), 7, 5)
	for i, x := range bad {
		wrong := with(one(lo(1), 5, 5), x.turn)
		s := filled(t, row(lo(1), 1, 3))
		refuses(t, "alone", s, []api.Span{wrong}, x.e)
		refuses(t, "first", s, []api.Span{wrong, good}, x.e)
		refuses(t, "last", s, []api.Span{good, good, wrong}, x.e)
		refuses(t, "of a name that is there", s, []api.Span{with(wrong, func(s *api.Span) { s.ID = min(s.ID, 2) })}, x.e)
		refuses(t, "behind too many of a trace", s, append(row(lo(1), 1, 1001), wrong), x.e)
		for _, y := range bad[i+1:] {
			other := with(one(lo(1), 6, 5), y.turn)
			refuses(t, "the first of two", s, []api.Span{good, wrong, other}, x.e)
			refuses(t, "the first of two", s, []api.Span{good, other, wrong}, y.e)
			refuses(t, "two in one", s, []api.Span{with(wrong, y.turn)}, x.e)
		}
		refuses(t, "of the trace 0", s, []api.Span{with(wrong, func(s *api.Span) { s.Trace = lo(0) })}, api.ErrSpanID)
	}
}

// ranks are tellings of one name, each one greater than the one ahead: every field decides once; the last one ends latest, and has less than the others in all else.
func ranks(t api.TraceID, id api.SpanID) []api.Span {
	turns := []func(s *api.Span){
		func(s *api.Span) {},
		func(s *api.Span) { s.End = 6 },
		func(s *api.Span) { s.Start = 2 },
		func(s *api.Span) { s.Status = api.Failed },
		func(s *api.Span) { s.Parent = 4 },
		func(s *api.Span) { s.Service = "t" },
		func(s *api.Span) { s.Op = "p" },
		func(s *api.Span) { s.Kind = api.Consumer },
		func(s *api.Span) { s.Links = []api.SpanID{1 << 60} },
		func(s *api.Span) { s.Attrs = []api.Attr{{Key: "k", Value: api.Value{Kind: api.Bool, Int: 1}}} },
		func(s *api.Span) { s.Events = []api.Event{{At: 3, Name: "e"}} },
	}
	var l []api.Span
	s := with(one(t, id, 5), func(s *api.Span) { s.Start = 3 })
	for _, turn := range turns {
		turn(&s)
		l = append(l, s)
	}
	return append(l, with(one(t, id, 7), func(s *api.Span) { s.Start = 5 }))
}

// S3, P9.2: of every two tellings of one name the greater one stays, whichever comes first, in one list or in two.
func TestTheGreaterStays(t *testing.T) {
	l := ranks(lo(1), 2)
	for i, a := range l {
		for j, b := range l {
			became, stays := api.Kept, a
			if j > i {
				became, stays = api.Better, b
			}
			s := filled(t, []api.Span{a})
			puts(t, s, []api.Span{b}, became)
			has(t, "in two lists", s, []api.Span{stays})
			s = store.New()
			puts(t, s, []api.Span{a, b, a, b, stays}, api.Fresh, became, api.Kept, api.Kept, api.Kept)
			has(t, "in one list", s, []api.Span{stays})
		}
	}
	s := store.New()
	want := slices.Repeat([]api.Change{api.Better}, len(l))
	want[0] = api.Fresh
	puts(t, s, l, want...)
	puts(t, s, l, slices.Repeat([]api.Change{api.Kept}, len(l))...)
	has(t, "rising", s, l[len(l)-1:])
}

// A span that stays has just its own fields: where all are the same, nothing of the later one.
func TestTheSameStays(t *testing.T) {
	s := filled(t, []api.Span{rich(lo(1), 1)})
	puts(t, s, []api.Span{rich(lo(1), 1)}, api.Kept)
	has(t, "rich", s, []api.Span{rich(lo(1), 1)})
	puts(t, s, []api.Span{with(rich(lo(1), 1), func(s *api.Span) { s.Links = s.Links[:1] })}, api.Kept)
	has(t, "fewer links", s, []api.Span{rich(lo(1), 1)})
	empty := with(one(lo(2), 1, 5), func(s *api.Span) { s.Links, s.Attrs, s.Events = []api.SpanID{}, []api.Attr{}, []api.Event{} })
	s = filled(t, []api.Span{one(lo(2), 1, 5)})
	puts(t, s, []api.Span{empty}, api.Kept)
	s = filled(t, []api.Span{empty})
	puts(t, s, []api.Span{one(lo(2), 1, 5)}, api.Kept)
}

// S3: spans of one ID in several traces, and of one trace with several IDs, are all there.
func TestNamesAreTraceAndID(t *testing.T) {
	a, b, c, d := one(lo(1), 1, 5), one(lo(1), 2, 5), one(lo(2), 1, 5), one(api.TraceID{Hi: 1, Lo: 1}, 1, 5)
	s := store.New()
	puts(t, s, []api.Span{d, c, b, a}, api.Fresh, api.Fresh, api.Fresh, api.Fresh)
	has(t, "names", s, []api.Span{a, b, c, d})
	for _, n := range []api.Span{one(lo(0), 1, 0), one(lo(1), 0, 0), one(lo(1), 3, 0), one(lo(2), 2, 0), one(lo(3), 1, 0), one(api.TraceID{Hi: 1}, 1, 0), one(api.TraceID{Hi: 1, Lo: 2}, 1, 0), one(api.TraceID{Hi: 2, Lo: 1}, 1, 0)} {
		lacks(t, s, n.Trace, n.ID)
	}
	for _, n := range []api.TraceID{{}, {Lo: 3}, {Hi: 1}, {Hi: 1, Lo: 2}, {Hi: math.MaxUint64, Lo: math.MaxUint64}} {
		if l := s.Trace(n); len(l) != 0 {
			t.Errorf("%v: %+v", n, l)
		}
	}
	has(t, "asked", s, []api.Span{a, b, c, d})
}

// S4, S5: traces rise by Hi, then Lo, spans by ID, all of them as numbers without a sign.
func TestOrder(t *testing.T) {
	numbers := []uint64{0, 1, 2, 255, 256, 1<<31 - 1, 1 << 31, 1 << 32, math.MaxInt64, 1 << 63, math.MaxUint64 - 1, math.MaxUint64}
	var want []api.Span
	for _, h := range numbers {
		for _, l := range numbers {
			for _, id := range numbers[1:] {
				if h != 0 || l != 0 {
					want = append(want, one(api.TraceID{Hi: h, Lo: l}, api.SpanID(id), 5))
				}
			}
		}
	}
	turned := slices.Clone(want)
	slices.Reverse(turned)
	var mixed []api.Span
	for i := range want {
		mixed = append(mixed, want[i*7%len(want)]) // 7 has no part in common with how many there are
	}
	for _, l := range [][]api.Span{want, turned, mixed} {
		has(t, "in order", filled(t, l), want)
	}
}

// The texts that may be longest, and the greatest numbers, come back as they were.
func TestGreatSpans(t *testing.T) {
	great := rich(api.TraceID{Hi: math.MaxUint64, Lo: math.MaxUint64}, math.MaxUint64)
	great.Parent, great.Start, great.End = math.MaxUint64, api.MaxTime, api.MaxTime
	great.Service, great.Op = strings.Repeat("s", api.MaxName), strings.Repeat("o", api.MaxOp)
	great.Attrs[1].Value.Int = math.MinInt64
	great.Events[1].At = api.MaxTime
	s := filled(t, []api.Span{great, rich(lo(1), 1)})
	has(t, "great", s, []api.Span{rich(lo(1), 1), great})
}
