package forest_test

import (
	"reflect"
	"slices"
	"testing"

	"spoor/api"
	"spoor/forest"
)

// rich has something in every field.
func rich(id, parent api.SpanID) api.Span {
	return api.Span{
		Trace: api.TraceID{Hi: 3, Lo: 7}, ID: id, Parent: parent, Links: ids(1<<40, 1<<50), Service: "web", Op: "get all", Kind: api.Client, Status: api.Fine,
		Start: 10, End: 20,
		Attrs:  []api.Attr{{Key: "a", Value: api.Value{Text: "x"}}, {Key: "b", Value: api.Value{Kind: api.Int, Int: -7}}},
		Events: []api.Event{{At: 11, Name: "e"}, {At: 12, Name: "f"}},
	}
}

func riches() []api.Span { return []api.Span{rich(3, 9), rich(1, 0), rich(2, 1)} }

// scribble writes into a span's lists, and into their spare room.
func scribble(s api.Span) {
	for i := range s.Links[:cap(s.Links)] {
		s.Links[:cap(s.Links)][i] = 77
	}
	for i := range s.Attrs[:cap(s.Attrs)] {
		s.Attrs[:cap(s.Attrs)][i] = api.Attr{Key: "#", Value: api.Value{Kind: 7, Text: "#", Int: 7}}
	}
	for i := range s.Events[:cap(s.Events)] {
		s.Events[:cap(s.Events)][i] = api.Event{At: 77, Name: "#"}
	}
}

// roomy is a list with spare room, each of its spans too.
func roomy() []api.Span {
	l := append(riches(), rich(8, 8), rich(9, 8))
	for i := range l {
		l[i].Links = append(slices.Clone(l[i].Links), 1<<61, 1<<62)[:len(l[i].Links)]
		l[i].Attrs = append(slices.Clone(l[i].Attrs), api.Attr{Key: "y"}, api.Attr{Key: "z"})[:len(l[i].Attrs)]
		l[i].Events = append(slices.Clone(l[i].Events), api.Event{At: 50, Name: "y"}, api.Event{At: 60, Name: "z"})[:len(l[i].Events)]
	}
	return l[:3]
}

// whole is a list of spans with all of their spare room.
func whole(l []api.Span) []api.Span {
	var out []api.Span
	for _, s := range l[:cap(l)] {
		s.Links, s.Attrs, s.Events = slices.Clone(s.Links[:cap(s.Links)]), slices.Clone(s.Attrs[:cap(s.Attrs)]), slices.Clone(s.Events[:cap(s.Events)])
		out = append(out, s)
	}
	return out
}

// stands: does the forest tell of the rich spans what it must?
func stands(t *testing.T, what string, f *forest.Forest) {
	t.Helper()
	tells(t, what, f, root(1, api.Born, 10, 20), inner(2, 1, 1, 1, 10, 20), root(3, api.Orphan, 10, 20))
	lists(t, what, f.Roots(), 1, 3)
	lists(t, what, f.Children(1), 2)
	lists(t, what, above(f, 2), 1)
	for _, s := range riches() {
		if got, there := f.Span(s.ID); !there || !reflect.DeepEqual(got, s) {
			t.Errorf("%s: %+v, %v", what, got, there)
		}
	}
}

// P3: what is handed in is not written into, nor its spare room, and none of it is kept.
func TestNothingHandedInIsKept(t *testing.T) {
	l := roomy()
	before := whole(l)
	f := built(t, l...)
	stands(t, "built", f)
	if !reflect.DeepEqual(whole(l), before) {
		t.Error("what was handed in was written into")
	}
	down, up := f.Down(), f.Above(2)
	for i, s := range l[:cap(l)] {
		scribble(s)
		l[:cap(l)][i] = api.Span{}
	}
	stands(t, "scribbled", f)
	if got := slices.Collect(down); len(got) != 3 || got[1] != inner(2, 1, 1, 1, 10, 20) {
		t.Error(got)
	}
	lists(t, "Above", slices.Collect(up), 1)

	l = append(roomy(), rich(1, 0))
	before = whole(l)
	refused(t, "one ID twice", l)
	if !reflect.DeepEqual(whole(l), before) {
		t.Error("what was refused was written into")
	}
}

// P3: spans that share their lists come to share nothing.
func TestSharedListsAreApart(t *testing.T) {
	l := riches()
	l[0].Links, l[0].Attrs, l[0].Events = l[1].Links, l[1].Attrs, l[1].Events
	f := built(t, l...)
	s, _ := f.Span(3)
	scribble(s)
	scribble(l[1])
	stands(t, "scribbled", f)
}

// P3: what is told is the caller's: nothing that is written into it is seen in the forest, or in another answer.
func TestAnswersAreNew(t *testing.T) {
	f := built(t, riches()...)
	s, _ := f.Span(1)
	other, _ := f.Span(1)
	lists1 := [][]api.SpanID{f.IDs(), f.Roots(), f.Children(1)}
	lists2 := [][]api.SpanID{f.IDs(), f.Roots(), f.Children(1)}
	scribble(s)
	for _, l := range lists1 {
		clear(l[:cap(l)])
	}
	if !reflect.DeepEqual(other, rich(1, 0)) || !reflect.DeepEqual(lists2, [][]api.SpanID{{1, 2, 3}, {1, 3}, {2}}) {
		t.Error(other, lists2)
	}
	for i, l := range lists2 { // their spare room, too
		_ = append(l, 77, 78)
		if i == 1 {
			lists(t, "IDs", lists2[0], 1, 2, 3)
		}
	}
	stands(t, "scribbled", f)
}

// P4: forests of the same spans have nothing to do with one another.
func TestForestsAreApart(t *testing.T) {
	l := riches()
	f := built(t, l...)
	g := built(t, append(l, with(rich(9, 2), func(s *api.Span) { s.Start = 15 }))...) // 3 names 9, which closes nothing
	stands(t, "the elder one", f)
	tells(t, "the younger one", g, root(1, api.Born, 10, 20), inner(2, 1, 1, 1, 10, 20), inner(9, 2, 1, 2, 15, 20), inner(3, 9, 1, 3, 15, 20))
}

// P6: an iterator may be ranged over again, also within its own loop, and left early.
func TestIterators(t *testing.T) {
	f := built(t, one(1, 0, 0, 9), one(2, 1, 0, 9), one(3, 2, 0, 9), one(4, 3, 0, 9), one(5, 0, 0, 9))
	down, up := f.Down(), f.Above(4)
	again(t, "Down", down, []api.Node{
		root(1, api.Born, 0, 9), inner(2, 1, 1, 1, 0, 9), inner(3, 2, 1, 2, 0, 9), inner(4, 3, 1, 3, 0, 9), root(5, api.Born, 0, 9)})
	again(t, "Above", up, ids(3, 2, 1))
	for range f.Above(1) {
		t.Error("there is something above a root")
	}
	for n := range down { // both at once
		lists(t, "Above", slices.Collect(up), 3, 2, 1)
		if n.ID == 4 {
			break
		}
	}
}

// again ranges over an iterator anew, within its own loop too, and leaves it behind each of its elements, behind which it must not be called once more.
func again[T comparable](t *testing.T, what string, it func(func(T) bool), want []T) {
	t.Helper()
	for range 2 {
		if got := slices.Collect(it); !slices.Equal(got, want) {
			t.Errorf("%s: %v, not %v", what, got, want)
		}
	}
	for stop := 1; stop <= len(want); stop++ {
		var got []T
		it(func(x T) bool {
			if inside := slices.Collect(it); !slices.Equal(inside, want) {
				t.Errorf("%s, within: %v, not %v", what, inside, want)
			}
			got = append(got, x)
			return len(got) < stop
		})
		if !slices.Equal(got, want[:stop]) {
			t.Errorf("%s: %v, not %v", what, got, want[:stop])
		}
	}
}
