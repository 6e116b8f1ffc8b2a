package store_test

import (
	"slices"
	"testing"

	"spoor/api"
	"spoor/store"
)

// traces has the spans of so many traces, from a Lo on, each with the IDs from 1 up to last.
func traces(from, many uint64, last api.SpanID) []api.Span {
	var l []api.Span
	for n := range many {
		l = append(l, row(lo(from+n), 1, last)...)
	}
	return l
}

func fits(t *testing.T, what string, s *store.Store, l []api.Span, want api.Errno) {
	t.Helper()
	if e := s.Fits(l); e != want {
		t.Errorf("%s: %v, not %v", what, e, want)
	}
}

// S2: a trace has at most 1000 spans; names that are there already take no room, several of one name that of one.
func TestRoomOfATrace(t *testing.T) {
	s := store.New()
	fits(t, "1000 of a trace", s, row(lo(1), 1, 1000), api.OK)
	refuses(t, "1001 of a trace", s, row(lo(1), 1, 1001), api.ErrStoreTrace)
	twice := append(row(lo(1), 1, 1000), row(lo(1), 1, 1000)...)
	fits(t, "1000, each twice", s, twice, api.OK)
	refuses(t, "and one more", s, append(twice, one(lo(1), 1001, 5)), api.ErrStoreTrace)
	fits(t, "1000 of two traces", s, traces(1, 2, 1000), api.OK)
	refuses(t, "of which the first one has one more", s, append(traces(1, 2, 1000), one(lo(1), 1001, 5)), api.ErrStoreTrace)
	refuses(t, "of which the last one has one more", s, append(traces(1, 2, 1000), one(lo(2), 1001, 5)), api.ErrStoreTrace)
	has(t, "asked alone", s, nil)

	puts(t, s, row(lo(1), 1, 600), slices.Repeat([]api.Change{api.Fresh}, 600)...)
	fits(t, "400 more", s, row(lo(1), 601, 1000), api.OK)
	fits(t, "400 more, and the elder ones", s, row(lo(1), 1, 1000), api.OK)
	refuses(t, "401 more", s, row(lo(1), 601, 1001), api.ErrStoreTrace)
	refuses(t, "401 more, and the elder ones", s, row(lo(1), 1, 1001), api.ErrStoreTrace)
	fits(t, "1000 of another trace", s, row(lo(2), 1, 1000), api.OK)
	fits(t, "1000 of a trace of that Lo", s, row(api.TraceID{Hi: 1, Lo: 1}, 1, 1000), api.OK)

	puts(t, s, row(lo(1), 601, 1000), slices.Repeat([]api.Change{api.Fresh}, 400)...)
	has(t, "1000", s, row(lo(1), 1, 1000))
	refuses(t, "one more", s, row(lo(1), 1001, 1001), api.ErrStoreTrace)
	refuses(t, "one more, of another trace one", s, []api.Span{one(lo(2), 1, 5), one(lo(1), 1001, 5)}, api.ErrStoreTrace)
	puts(t, s, []api.Span{one(lo(1), 1000, 6), one(lo(1), 7, 5), one(lo(2), 1, 5)}, api.Better, api.Kept, api.Fresh)
	if n := s.Count(); n != 1001 {
		t.Error(n)
	}
}

// S2: there are at most 100000 spans in all; a trace that is too long is told first.
func TestRoomInAll(t *testing.T) {
	s := store.New()
	fits(t, "100000", s, traces(1, 100, 1000), api.OK)
	fits(t, "100000 traces", s, traces(1, 100000, 1), api.OK)
	refuses(t, "100001", s, append(traces(1, 100, 1000), one(lo(101), 1, 5)), api.ErrStoreFull)
	refuses(t, "100001 traces", s, traces(1, 100001, 1), api.ErrStoreFull)
	fits(t, "100000, some twice", s, append(traces(1, 100, 1000), traces(50, 3, 9)...), api.OK)
	refuses(t, "100001, of a trace too many", s, append(traces(1, 100, 1000), one(lo(50), 1001, 5)), api.ErrStoreTrace)
	refuses(t, "and of another trace one", s, append(traces(1, 100, 1000), one(lo(101), 1, 5), one(lo(50), 1001, 5)), api.ErrStoreTrace)
	refuses(t, "and one that may not be", s, append(traces(1, 100, 1001), one(lo(7), 0, 5)), api.ErrSpanID)

	most := append(traces(1, 99, 1000), row(lo(100), 1, 999)...)
	if _, e := s.Put(most); e != api.OK || s.Count() != 99999 {
		t.Fatal(e, s.Count())
	}
	fits(t, "one more", s, row(lo(101), 1, 1), api.OK)
	fits(t, "one more, twice", s, []api.Span{one(lo(101), 1, 5), one(lo(101), 1, 7)}, api.OK)
	fits(t, "one more, and some that are there", s, append(traces(3, 2, 1000), one(lo(100), 1000, 5)), api.OK)
	fits(t, "two more", s, row(lo(101), 1, 2), api.ErrStoreFull)
	fits(t, "two more, of two traces", s, traces(101, 2, 1), api.ErrStoreFull)
	fits(t, "two more of a trace that has room for one", s, row(lo(100), 1000, 1001), api.ErrStoreTrace)
	if l, e := s.Put(traces(101, 2, 1)); e != api.ErrStoreFull || len(l) != 0 || s.Count() != 99999 || len(s.Trace(lo(101))) != 0 {
		t.Error(l, e, s.Count())
	}

	puts(t, s, row(lo(101), 1, 1), api.Fresh)
	fits(t, "into a full one", s, row(lo(100), 1000, 1000), api.ErrStoreFull)
	fits(t, "into a full one, of a trace that is too long", s, row(lo(1), 1001, 1001), api.ErrStoreTrace)
	fits(t, "what is there", s, most, api.OK)
	puts(t, s, []api.Span{one(lo(101), 1, 9), one(lo(1), 1, 5)}, api.Better, api.Kept)
	if l := all(s); len(l) != 100000 || s.Count() != 100000 || l[99999].End != 9 || len(s.Traces()) != 101 {
		t.Error(len(l), s.Count(), len(s.Traces()))
	}
}

// S6, P9.4: what Merge refuses, in its order; neither of the stores changes.
func TestMergeIsRefused(t *testing.T) {
	s, o := filled(t, row(lo(1), 1, 600)), filled(t, row(lo(1), 600, 1001), traces(3, 2, 1))
	left, right := all(s), all(o)
	for _, pair := range [][2]*store.Store{{s, o}, {o, s}} {
		if e := pair[0].Merge(pair[1]); e != api.ErrStoreTrace {
			t.Error(e)
		}
		has(t, "the left one", s, left)
		has(t, "the right one", o, right)
	}
	full, other := filled(t, traces(1, 100, 1000)), filled(t, traces(101, 1, 1))
	before := all(full)
	if a, b := full.Merge(other), other.Merge(full); a != api.ErrStoreFull || b != api.ErrStoreFull {
		t.Error(a, b)
	}
	puts(t, other, []api.Span{one(lo(7), 1001, 5)}, api.Fresh)
	if a, b := full.Merge(other), other.Merge(full); a != api.ErrStoreTrace || b != api.ErrStoreTrace {
		t.Error(a, b)
	}
	if e := full.Merge(nil); e != api.ErrArg {
		t.Error(e)
	}
	has(t, "full", full, before)
	has(t, "the other one", other, []api.Span{one(lo(7), 1001, 5), one(lo(101), 1, 5)})
}

// S6: what is in both takes no room, and a full store is merged with itself.
func TestMergeWithoutRoom(t *testing.T) {
	full := filled(t, traces(1, 100, 1000))
	part := filled(t, []api.Span{one(lo(100), 1000, 7), one(lo(1), 1, 4)})
	if e := full.Merge(part); e != api.OK {
		t.Error(e)
	}
	if e := full.Merge(full); e != api.OK || full.Count() != 100000 {
		t.Error(e, full.Count())
	}
	if e := part.Merge(full); e != api.OK || part.Count() != 100000 {
		t.Error(e, part.Count())
	}
	want := traces(1, 100, 1000)
	want[99999].End = 7
	has(t, "full", full, want)
	has(t, "part", part, want)
}
