package store_test

import (
	"reflect"
	"slices"
	"testing"

	"spoor/api"
)

// scribble writes into a span's lists, and into their spare room.
func scribble(s api.Span) {
	for i := range s.Links[:cap(s.Links)] {
		s.Links[:cap(s.Links)][i] = 77
	}
	for i := range s.Attrs[:cap(s.Attrs)] {
		s.Attrs[:cap(s.Attrs)][i] = api.Attr{Key: "#", Value: api.Value{Kind: 7, Text: "#", Int: 7}}
	}
	for i := range s.Events[:cap(s.Events)] {
		s.Events[:cap(s.Events)][i] = api.Event{At: 77, Name: "#"}
	}
}

// scribbleAll writes into a list of spans, into what they have, and into its spare room.
func scribbleAll(l []api.Span) {
	for i, s := range l {
		scribble(s)
		l[i] = api.Span{}
	}
	_ = append(l, make([]api.Span, cap(l)-len(l))...)
}

func riches() []api.Span {
	return []api.Span{rich(lo(1), 1), rich(lo(1), 2), rich(lo(2), 1)}
}

// roomy is a list with spare room, each of its spans too; all of what stands in it is told apart from what a store may write.
func roomy() []api.Span {
	l := append(riches(), one(lo(9), 9, 9), one(lo(9), 8, 8))
	for i := range l {
		l[i].Links = append(slices.Clone(l[i].Links), 1<<61, 1<<62)[:len(l[i].Links)]
		l[i].Attrs = append(slices.Clone(l[i].Attrs), api.Attr{Key: "y"}, api.Attr{Key: "z"})[:len(l[i].Attrs)]
		l[i].Events = append(slices.Clone(l[i].Events), api.Event{At: 50, Name: "y"}, api.Event{At: 60, Name: "z"})[:len(l[i].Events)]
	}
	return l
}

// whole is a list of spans with all of their spare room.
func whole(l []api.Span) []api.Span {
	var out []api.Span
	for _, s := range l[:cap(l)] {
		s.Links, s.Attrs, s.Events = slices.Clone(s.Links[:cap(s.Links)]), slices.Clone(s.Attrs[:cap(s.Attrs)]), slices.Clone(s.Events[:cap(s.Events)])
		out = append(out, s)
	}
	return out
}

// P3: what is handed in is not written into, nor its spare room, and none of it is kept.
func TestNothingHandedInIsKept(t *testing.T) {
	l := roomy()
	before := whole(l)
	s := filled(t)
	if e := s.Fits(l[:3]); e != api.OK {
		t.Fatal(e)
	}
	puts(t, s, l[:3], api.Fresh, api.Fresh, api.Fresh)
	puts(t, s, l[:3], api.Kept, api.Kept, api.Kept)
	if !reflect.DeepEqual(whole(l), before) {
		t.Error("what was handed in was written into")
	}
	scribbleAll(l)
	has(t, "scribbled", s, riches())

	better := roomy()[:3]
	for i := range better {
		better[i].End = 30
	}
	want := riches()
	for i := range want {
		want[i].End = 30
	}
	puts(t, s, better, api.Better, api.Better, api.Better)
	scribbleAll(better)
	has(t, "scribbled", s, want)
}

// P3: spans of one list that share their lists come to share nothing.
func TestSharedListsAreApart(t *testing.T) {
	a := rich(lo(1), 1)
	b := a
	b.ID = 2
	s := filled(t, []api.Span{a, b})
	x, _ := s.Get(lo(1), 1)
	scribble(x)
	scribble(a)
	for i, y := range s.Trace(lo(1)) {
		if want := rich(lo(1), api.SpanID(i+1)); !reflect.DeepEqual(y, want) {
			t.Errorf("%+v", y)
		}
	}
}

// P3: what is told is the caller's: nothing that is written into it is seen in the store, or in another answer.
func TestAnswersAreNew(t *testing.T) {
	s := filled(t, riches())
	o := filled(t)
	if e := o.Merge(s); e != api.OK {
		t.Fatal(e)
	}
	x, _ := s.Get(lo(1), 1)
	y, _ := s.Get(lo(1), 1)
	first, second := s.Trace(lo(1)), s.Trace(lo(1))
	it := s.All()
	told, again := slices.Collect(it), slices.Collect(it)
	names, others := s.Traces(), s.Traces()
	became, e := s.Put(riches())
	became2, e2 := s.Put(riches())
	if e != api.OK || e2 != api.OK {
		t.Fatal(e, e2)
	}

	scribble(x)
	scribbleAll(first)
	scribbleAll(told)
	clear(names[:cap(names)])
	clear(became[:cap(became)])
	if !reflect.DeepEqual(y, rich(lo(1), 1)) || !reflect.DeepEqual(second, riches()[:2]) || !reflect.DeepEqual(again, riches()) {
		t.Error(y, second, again)
	}
	if !slices.Equal(others, []api.TraceID{lo(1), lo(2)}) || !slices.Equal(became2, []api.Change{api.Kept, api.Kept, api.Kept}) {
		t.Error(others, became2)
	}
	has(t, "the store", s, riches())
	has(t, "the one that it was merged into", o, riches())
	if !reflect.DeepEqual(slices.Collect(it), riches()) {
		t.Error("the iterator tells what was written into its spans")
	}

	for i, x := range second { // the spans of one answer, too
		scribble(x)
		if i == 0 && !reflect.DeepEqual(second[1], rich(lo(1), 2)) {
			t.Errorf("%+v", second[1])
		}
	}
}

// P6: All tells what there was when it answered, each time, within its own loop too; a loop may be left.
func TestAll(t *testing.T) {
	s := filled(t)
	none := s.All()
	if none == nil {
		t.Fatal("nil")
	}
	puts(t, s, riches(), api.Fresh, api.Fresh, api.Fresh)
	for x := range none {
		t.Errorf("%+v", x)
	}
	it := s.All()
	var told []api.Span
	for x := range it {
		told = append(told, x)
		id := api.SpanID(10 + len(told))
		puts(t, s, []api.Span{one(lo(1), id, 5), with(rich(lo(2), 1), func(s *api.Span) { s.End += int64(id) })}, api.Fresh, api.Better)
		n := 0
		for y := range it {
			scribble(y)
			if n++; n == len(told) {
				break
			}
		}
		if n != len(told) {
			t.Errorf("left behind %d, not %d", n, len(told))
		}
	}
	for range 2 {
		if !reflect.DeepEqual(told, riches()) {
			t.Errorf("%+v", told)
		}
		told = slices.Collect(it)
	}
	if n := len(all(s)); n != 6 || s.Count() != 6 {
		t.Error(n, s.Count())
	}
	if x, _ := s.Get(lo(2), 1); x.End != 33 {
		t.Error(x.End)
	}
}

// A loop that is left is told nothing more.
func TestAllIsLeft(t *testing.T) {
	s := filled(t, riches())
	for stop := 1; stop <= 3; stop++ {
		n := 0
		s.All()(func(api.Span) bool {
			n++
			return n < stop
		})
		if n != stop {
			t.Errorf("%d calls, not %d", n, stop)
		}
	}
}

// A span that was told stays as it is when a greater one takes its place.
func TestToldSpansStay(t *testing.T) {
	s := filled(t, riches())
	x, _ := s.Get(lo(1), 1)
	l := s.Trace(lo(1))
	greater := with(rich(lo(1), 1), func(s *api.Span) { s.Links = []api.SpanID{1 << 55, 1 << 56} })
	puts(t, s, []api.Span{greater}, api.Better)
	if !reflect.DeepEqual(x, rich(lo(1), 1)) || !reflect.DeepEqual(l, riches()[:2]) {
		t.Error(x, l)
	}
	has(t, "the greater one", s, []api.Span{greater, rich(lo(1), 2), rich(lo(2), 1)})
}
