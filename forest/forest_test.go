package forest_test

import (
	"math"
	"reflect"
	"slices"
	"strings"
	"testing"

	"spoor/api"
	"spoor/forest"
)

// one is a span of the chapter's examples.
func one(id, parent api.SpanID, start, end int64) api.Span {
	return api.Span{Trace: api.TraceID{Lo: 7}, ID: id, Parent: parent, Service: "a", Op: "b", Start: start, End: end}
}

// with is a span in which something is turned.
func with(s api.Span, turn func(s *api.Span)) api.Span {
	turn(&s)
	return s
}

func ids(l ...api.SpanID) []api.SpanID { return l }

func built(t *testing.T, l ...api.Span) *forest.Forest {
	t.Helper()
	f, e := forest.Build(l)
	if e != api.OK || f == nil {
		t.Fatal(f, e)
	}
	return f
}

func root(id api.SpanID, o api.Origin, from, to int64) api.Node {
	return api.Node{ID: id, Origin: o, Tree: id, Clip: api.Interval{From: from, To: to}}
}

func inner(id, parent, tree api.SpanID, depth int, from, to int64) api.Node {
	return api.Node{ID: id, Parent: parent, Origin: api.Inner, Tree: tree, Depth: depth, Clip: api.Interval{From: from, To: to}}
}

// tells: does Down tell just these nodes, and Node each of them?
func tells(t *testing.T, what string, f *forest.Forest, want ...api.Node) {
	t.Helper()
	if got := slices.Collect(f.Down()); !slices.Equal(got, want) {
		t.Fatalf("%s: Down: %+v, not %+v", what, got, want)
	}
	var rising []api.SpanID
	for _, n := range want {
		rising = append(rising, n.ID)
		if got, there := f.Node(n.ID); !there || got != n {
			t.Fatalf("%s: Node: %+v, %v, not %+v", what, got, there, n)
		}
	}
	slices.Sort(rising)
	if got := f.IDs(); !slices.Equal(got, rising) || f.Count() != len(rising) {
		t.Fatalf("%s: %d IDs %v, not %v", what, f.Count(), got, rising)
	}
}

func lists(t *testing.T, what string, got []api.SpanID, want ...api.SpanID) {
	t.Helper()
	if !slices.Equal(got, want) {
		t.Errorf("%s: %v, not %v", what, got, want)
	}
}

func above(f *forest.Forest, id api.SpanID) []api.SpanID { return slices.Collect(f.Above(id)) }

// lacks: do all calls tell that there is no such span?
func lacks(t *testing.T, f *forest.Forest, id api.SpanID) {
	t.Helper()
	if n, there := f.Node(id); there || n != (api.Node{}) {
		t.Errorf("Node(%d): %+v, %v", id, n, there)
	}
	if s, there := f.Span(id); there || !reflect.DeepEqual(s, api.Span{}) {
		t.Errorf("Span(%d): %+v, %v", id, s, there)
	}
	lists(t, "Children", f.Children(id))
	if f.Above(id) == nil {
		t.Error("Above is nil")
	}
	lists(t, "Above", above(f, id))
}

// The chapter's first example.
func TestExampleTrees(t *testing.T) {
	f := built(t, one(1, 0, 0, 10), one(2, 1, 3, 12), one(3, 2, 0, 5), one(4, 9, 2, 4))
	tells(t, "trees", f, root(1, api.Born, 0, 10), inner(2, 1, 1, 1, 3, 10), inner(3, 2, 1, 2, 3, 5), root(4, api.Orphan, 2, 4))
	lists(t, "Roots", f.Roots(), 1, 4)
	lists(t, "IDs", f.IDs(), 1, 2, 3, 4)
	lists(t, "Children(1)", f.Children(1), 2)
	lists(t, "Children(2)", f.Children(2), 3)
	lists(t, "Children(3)", f.Children(3))
	lists(t, "Children(4)", f.Children(4))
	lists(t, "Above(1)", above(f, 1))
	lists(t, "Above(2)", above(f, 2), 1)
	lists(t, "Above(3)", above(f, 3), 2, 1)
	lists(t, "Above(4)", above(f, 4))
	for _, id := range ids(0, 5, 9, math.MaxUint64) { // 9 is named, 0 is the parent of a root: neither is there
		lacks(t, f, id)
	}
}

// The chapter's second example.
func TestExampleRing(t *testing.T) {
	f := built(t, one(5, 6, 0, 1), one(6, 7, 0, 1), one(7, 5, 0, 1), one(8, 7, 0, 1))
	tells(t, "a ring", f, root(5, api.Looped, 0, 1), inner(7, 5, 5, 1, 0, 1), inner(6, 7, 5, 2, 0, 1), inner(8, 7, 5, 2, 0, 1))
	lists(t, "Roots", f.Roots(), 5)
	lists(t, "Children(5)", f.Children(5), 7)
	lists(t, "Children(6)", f.Children(6)) // 5 names it, but is a root
	lists(t, "Children(7)", f.Children(7), 6, 8)
	lists(t, "Above(5)", above(f, 5))
	lists(t, "Above(8)", above(f, 8), 7, 5)
}

// The chapter's third example.
func TestExampleRingOfOne(t *testing.T) {
	s := one(1, 1, 0, 1)
	f := built(t, s)
	tells(t, "a ring of one", f, root(1, api.Looped, 0, 1))
	lists(t, "Roots", f.Roots(), 1)
	lists(t, "Children", f.Children(1))
	lists(t, "Above", above(f, 1))
	if got, there := f.Span(1); !there || !reflect.DeepEqual(got, s) {
		t.Errorf("%+v, %v", got, there)
	}
}

// The chapter's fourth example.
func TestExampleClips(t *testing.T) {
	f := built(t, one(1, 0, 0, 10), one(2, 1, 4, 4), one(3, 1, 20, 30))
	tells(t, "clips", f, root(1, api.Born, 0, 10), inner(2, 1, 1, 1, 4, 4), inner(3, 1, 1, 1, 10, 10))
	lists(t, "Children(1)", f.Children(1), 2, 3)
}

func TestNoSpans(t *testing.T) {
	for _, l := range [][]api.Span{nil, {}} {
		f := built(t, l...)
		tells(t, "nothing", f)
		lists(t, "Roots", f.Roots())
		lacks(t, f, 0)
		lacks(t, f, 1)
		if f.Down() == nil {
			t.Error("Down is nil")
		}
	}
}

// spoilt has spans that may not be, by each of layer 4's errors.
func spoilt() []api.Span {
	s := one(2, 0, 5, 9)
	return []api.Span{
		with(s, func(s *api.Span) { s.ID = 0 }),
		with(s, func(s *api.Span) { s.Trace = api.TraceID{} }),
		with(s, func(s *api.Span) { s.Start = -1 }),
		with(s, func(s *api.Span) { s.End = 4 }),
		with(s, func(s *api.Span) { s.End = api.MaxTime + 1 }),
		with(s, func(s *api.Span) { s.Service = "" }),
		with(s, func(s *api.Span) { s.Op = strings.Repeat("o", api.MaxOp+1) }),
		with(s, func(s *api.Span) { s.Kind = 5 }),
		with(s, func(s *api.Span) { s.Status = 3 }),
		with(s, func(s *api.Span) { s.Links = ids(s.ID) }),
		with(s, func(s *api.Span) { s.Attrs = []api.Attr{{Key: "A"}} }),
		with(s, func(s *api.Span) { s.Events = []api.Event{{At: 1}} }),
	}
}

func refused(t *testing.T, what string, l []api.Span) {
	t.Helper()
	if f, e := forest.Build(l); e != api.ErrForestSpans || f != nil {
		t.Errorf("%s: %v, %v", what, f, e)
	}
}

// beside puts a span ahead of others, among them, and behind them.
func beside(s api.Span) [][]api.Span {
	var all [][]api.Span
	for i := range 4 {
		all = append(all, slices.Insert([]api.Span{one(1, 0, 0, 9), one(3, 1, 0, 9), one(4, 9, 0, 9)}, i, s))
	}
	return all
}

// Build's error, for each of its reasons, wherever the span stands that is amiss.
func TestRefused(t *testing.T) {
	for _, s := range spoilt() {
		refused(t, "it may not be", []api.Span{s})
		for _, l := range beside(s) {
			refused(t, "it may not be", l)
		}
	}
	for _, trace := range []api.TraceID{{Lo: 8}, {Hi: 1, Lo: 7}, {Hi: 7}} {
		for _, l := range beside(with(one(2, 1, 0, 1), func(s *api.Span) { s.Trace = trace })) {
			refused(t, "another trace", l)
		}
	}
	for _, id := range ids(1, 3, 4) {
		for _, l := range beside(one(id, 2, 3, 8)) {
			refused(t, "one ID twice", l)
		}
	}
	refused(t, "one span twice", []api.Span{one(1, 0, 0, 1), one(1, 0, 0, 1)})
	two := with(one(1, 0, 0, 1), func(s *api.Span) { s.Trace.Hi = 1 })
	refused(t, "one ID in two traces", []api.Span{one(1, 0, 0, 1), two})
	for _, l := range beside(one(2, 1, 5, 9)) { // what is refused above is refused for what was turned
		built(t, l...)
	}
}

// row has so many spans with the IDs from 1 on, each of which names the one ahead of it.
func row(n int) []api.Span {
	var l []api.Span
	for i := range n {
		l = append(l, one(api.SpanID(i+1), api.SpanID(i), int64(i), int64(3*n-i)))
	}
	return l
}

// A trace has at most MaxTrace spans; those stand as deep as may be.
func TestMostSpans(t *testing.T) {
	refused(t, "too many", row(api.MaxTrace+1))
	refused(t, "far too many", row(3*api.MaxTrace))
	refused(t, "too many, one of them spoilt", append(row(api.MaxTrace), api.Span{}))

	l := row(api.MaxTrace)
	f := built(t, l...)
	want := []api.Node{root(1, api.Born, 0, 3*api.MaxTrace)}
	for i := 1; i < api.MaxTrace; i++ {
		want = append(want, inner(api.SpanID(i+1), api.SpanID(i), 1, i, int64(i), int64(3*api.MaxTrace-i)))
	}
	tells(t, "a row", f, want...)
	up := above(f, api.MaxTrace)
	if len(up) != api.MaxTrace-1 || up[0] != api.MaxTrace-1 || up[len(up)-1] != 1 {
		t.Error(up)
	}

	l[0].Parent = api.MaxTrace // the row becomes one ring
	want[0].Origin = api.Looped
	tells(t, "a ring", built(t, l...), want...)
}

// All spans may be roots, and all of them but one may be the children of one.
func TestWide(t *testing.T) {
	var wide, roots []api.Span
	want := []api.Node{root(api.MaxTrace, api.Born, 0, api.MaxTime)}
	var apart []api.Node
	for i := range api.MaxTrace - 1 {
		id, from := api.SpanID(i+1), int64(api.MaxTrace-i)
		wide = append(wide, one(id, api.MaxTrace, from, api.MaxTime))
		roots = append(roots, one(id, 1<<40, from, from+1))
		want = slices.Insert(want, 1, inner(id, api.MaxTrace, api.MaxTrace, 1, from, api.MaxTime))
		apart = slices.Insert(apart, 0, root(id, api.Orphan, from, from+1))
	}
	tells(t, "wide", built(t, append(wide, one(api.MaxTrace, 0, 0, api.MaxTime))...), want...)
	tells(t, "apart", built(t, roots...), apart...)
}

// IDs are numbers of 64 bits without a sign, moments reach from 0 to MaxTime.
func TestEndsOfNumbers(t *testing.T) {
	const most = math.MaxUint64
	f := built(t, one(most, 1<<63, 0, api.MaxTime), one(1<<63, 1, api.MaxTime, api.MaxTime), one(1, most, 0, 0), one(1<<63-1, most, api.MaxTime-1, api.MaxTime))
	tells(t, "great IDs", f,
		root(1, api.Looped, 0, 0), inner(1<<63, 1, 1, 1, 0, 0), inner(most, 1<<63, 1, 2, 0, 0), inner(1<<63-1, most, 1, 3, 0, 0))
	lists(t, "IDs", f.IDs(), 1, 1<<63-1, 1<<63, most)

	f = built(t, one(most, 0, 0, api.MaxTime), one(1<<63, most, api.MaxTime, api.MaxTime), one(5, most, 0, 0), one(4, most, 0, api.MaxTime))
	tells(t, "great moments", f,
		root(most, api.Born, 0, api.MaxTime), inner(4, most, most, 1, 0, api.MaxTime), inner(5, most, most, 1, 0, 0), inner(1<<63, most, most, 1, api.MaxTime, api.MaxTime))
}

// Roots and children stand by their Clip's From, not by their Start, and then by their IDs; never by their ends.
func TestTheOrder(t *testing.T) {
	f := built(t, one(9, 0, 10, 20), one(8, 9, 3, 15), one(7, 9, 5, 12), one(6, 9, 11, 12), one(5, 9, 30, 40), one(4, 9, 20, 20), one(3, 9, 2, 4))
	lists(t, "Children", f.Children(9), 3, 7, 8, 6, 4, 5) // of 3, 7 and 8 the Clip is from 10 on, of 4 and 5 from 20 on
	tells(t, "clips", f, root(9, api.Born, 10, 20), inner(3, 9, 9, 1, 10, 10), inner(7, 9, 9, 1, 10, 12), inner(8, 9, 9, 1, 10, 15),
		inner(6, 9, 9, 1, 11, 12), inner(4, 9, 9, 1, 20, 20), inner(5, 9, 9, 1, 20, 20))

	f = built(t, one(1, 0, 5, 9), one(2, 9, 5, 6), one(4, 3, 3, 4), one(3, 4, 5, 5), one(5, 5, 4, 4), one(6, 8, 4, 8))
	lists(t, "Roots", f.Roots(), 5, 6, 1, 2, 3)
	lists(t, "Children", f.Children(3), 4)
	tells(t, "roots", f, root(5, api.Looped, 4, 4), root(6, api.Orphan, 4, 8), root(1, api.Born, 5, 9), root(2, api.Orphan, 5, 6),
		root(3, api.Looped, 5, 5), inner(4, 3, 3, 1, 5, 5))
}

// Beneath a Clip that is empty all are empty, at its From.
func TestEmptyClips(t *testing.T) {
	f := built(t, one(1, 0, 4, 4), one(2, 1, 0, 9), one(3, 2, 5, 6), one(4, 2, 1, 1))
	tells(t, "an empty root", f, root(1, api.Born, 4, 4), inner(2, 1, 1, 1, 4, 4), inner(3, 2, 1, 2, 4, 4), inner(4, 2, 1, 2, 4, 4))

	f = built(t, one(1, 0, 4, 8), one(2, 1, 9, 20), one(3, 2, 4, 8), one(4, 1, 0, 2), one(5, 4, 4, 8))
	tells(t, "outside", f, root(1, api.Born, 4, 8), inner(4, 1, 1, 1, 4, 4), inner(5, 4, 1, 2, 4, 4), inner(2, 1, 1, 1, 8, 8), inner(3, 2, 1, 2, 8, 8))
}

// Each span with all that is beneath it is told ahead of the next one.
func TestDown(t *testing.T) {
	f := built(t,
		one(1, 0, 0, 90), one(2, 1, 50, 90), one(3, 1, 10, 90), one(4, 2, 60, 90), one(5, 3, 20, 90), one(6, 3, 15, 90), one(7, 6, 80, 90),
		one(8, 77, 0, 90), one(9, 8, 1, 2), one(10, 10, 0, 1), one(11, 10, 0, 1))
	var got []api.SpanID
	for n := range f.Down() {
		got = append(got, n.ID)
	}
	lists(t, "Down", got, 1, 3, 6, 7, 5, 2, 4, 8, 9, 10, 11)
	lists(t, "Roots", f.Roots(), 1, 8, 10)
	lists(t, "Children(1)", f.Children(1), 3, 2)
	lists(t, "Children(3)", f.Children(3), 6, 5)
	lists(t, "Above(7)", above(f, 7), 6, 3, 1)
}

// Several rings, each cut at its least ID, whichever span leads into them.
func TestRings(t *testing.T) {
	f := built(t,
		one(1, 12, 0, 9), one(2, 1, 0, 9), // a way into the ring of 10, 11, 12
		one(10, 11, 0, 9), one(11, 12, 0, 9), one(12, 10, 0, 9),
		one(21, 20, 0, 9), one(20, 21, 0, 9), one(3, 21, 0, 9),
		one(30, 30, 0, 9), one(4, 30, 0, 9), one(31, 4, 0, 9))
	tells(t, "rings", f,
		root(10, api.Looped, 0, 9), inner(12, 10, 10, 1, 0, 9), inner(1, 12, 10, 2, 0, 9), inner(2, 1, 10, 3, 0, 9), inner(11, 12, 10, 2, 0, 9),
		root(20, api.Looped, 0, 9), inner(21, 20, 20, 1, 0, 9), inner(3, 21, 20, 2, 0, 9),
		root(30, api.Looped, 0, 9), inner(4, 30, 30, 1, 0, 9), inner(31, 4, 30, 2, 0, 9))
}

// What a span has beside its ID, its Parent and its times has no say in where it stands; Span tells all of it.
func TestRichSpans(t *testing.T) {
	l := riches()
	f := built(t, l...)
	tells(t, "rich", f, root(1, api.Born, 10, 20), inner(2, 1, 1, 1, 10, 20), root(3, api.Orphan, 10, 20))
	for _, s := range l {
		if got, there := f.Span(s.ID); !there || !reflect.DeepEqual(got, s) {
			t.Errorf("%+v, %v, not %+v", got, there, s)
		}
	}
}
