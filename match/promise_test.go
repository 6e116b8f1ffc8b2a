package match_test

import (
	"math/rand/v2"
	"slices"
	"testing"

	"spoor/api"
	"spoor/forest"
	"spoor/match"
)

func setOf(t *testing.T, e api.Expr, f *forest.Forest) []api.SpanID {
	t.Helper()
	l, err := match.Set(e, f)
	if err != api.OK || !slices.IsSorted(l) || len(slices.Compact(slices.Clone(l))) != len(l) {
		t.Fatal(l, err)
	}
	return l
}

func found(t *testing.T, q api.Query, f *forest.Forest) []api.SpanID {
	t.Helper()
	l, err := match.Find(q, f)
	if err != api.OK || !slices.IsSorted(l) {
		t.Fatal(l, err)
	}
	return l
}

func holds(t *testing.T, c api.Expr, f *forest.Forest, id api.SpanID) bool {
	t.Helper()
	is, e := match.Holds(c, f, id)
	if e != api.OK {
		t.Fatal(e)
	}
	return is
}

// within: is all of a in b?
func within(a, b []api.SpanID) bool {
	return !slices.ContainsFunc(a, func(id api.SpanID) bool { return !slices.Contains(b, id) })
}

// together has what is in a or in b.
func together(a, b []api.SpanID) []api.SpanID {
	l := slices.Concat(a, b)
	slices.Sort(l)
	return slices.Compact(l)
}

// P17.1: a span is in OpSpans of c just if Holds is true; OpNot, OpAnd and OpOr are what they say.
func TestOneByOne(t *testing.T) {
	r := rand.New(rand.NewPCG(17, 11))
	for range 1500 {
		f := built(t, drawn(r, 9, 1)...)
		c, d := condition(r, 2), condition(r, 2)
		in := setOf(t, spans(c), f)
		for _, id := range f.IDs() {
			x, y := holds(t, c, f, id), holds(t, d, f, id)
			if x != slices.Contains(in, id) || holds(t, neg(c), f, id) == x || holds(t, two(api.OpAnd, c, d), f, id) != (x && y) || holds(t, two(api.OpOr, c, d), f, id) != (x || y) {
				t.Fatalf("%+v, %+v of %d", c, d, id)
			}
		}
		if !within(in, f.IDs()) || !slices.Equal(setOf(t, all(), f), f.IDs()) {
			t.Fatal(in)
		}
	}
}

// P17.2: what sets of two sets have.
func TestTogether(t *testing.T) {
	r := rand.New(rand.NewPCG(17, 12))
	lacking, whole, nearer, further := 0, 0, 0, 0
	for range 4000 {
		f := built(t, drawn(r, 14, 1)...)
		x, y := anyTree(r, r.IntN(3)), anyTree(r, r.IntN(3))
		a, b := setOf(t, x, f), setOf(t, y, f)
		of := func(op api.Op) []api.SpanID { return setOf(t, two(op, x, y), f) }
		both := together(a, b)
		if !slices.Equal(of(api.OpEither), both) {
			t.Fatal("either", a, b)
		}
		if len(a) == 0 || len(b) == 0 {
			both = nil
			lacking++
		} else {
			whole++
		}
		if !slices.Equal(of(api.OpBoth), both) {
			t.Fatal("both", a, b)
		}
		child, below := of(api.OpChild), of(api.OpBelow)
		if !within(child, b) || !within(below, b) || !within(of(api.OpBeside), b) || !within(child, below) {
			t.Fatal("not of the second one", a, b)
		}
		nearer, further = nearer+len(child), further+len(below)-len(child)
		inner := slices.DeleteFunc(slices.Clone(b), func(id api.SpanID) bool { return slices.Contains(f.Roots(), id) })
		if !slices.Equal(setOf(t, two(api.OpBelow, all(), y), f), inner) {
			t.Fatal("no roots", b, inner)
		}
	}
	if lacking < 300 || whole < 300 || nearer < 300 || further < 300 {
		t.Error("few of one kind:", lacking, whole, nearer, further)
	}
}

// P17.3: Find has nothing that Set has not; a stage more leaves no more; top n has n at most; count of at least 0 leaves everything.
func TestStagesLeaveLess(t *testing.T) {
	r := rand.New(rand.NewPCG(17, 13))
	for range 4000 {
		f := built(t, drawn(r, 12, 1)...)
		q := api.Query{Set: anyTree(r, 2)}
		left := setOf(t, q.Set, f)
		if !slices.Equal(found(t, q, f), left) {
			t.Fatal(q)
		}
		for range 4 {
			s := stage(r)
			q.Stages = append(q.Stages, s)
			now := found(t, q, f)
			if !within(now, left) || s.Name != "top" && len(now) > 0 && len(now) != len(left) {
				t.Fatalf("%+v: %v of %v", s, now, left)
			}
			if s.Name == "top" && len(now) != min(len(left), int(s.Int)) {
				t.Fatalf("%+v: %v of %v", s, now, left)
			}
			left = now
			q.Stages = append(q.Stages, api.Stage{Name: "count", Op: api.OpGe})
			if !slices.Equal(found(t, q, f), left) {
				t.Fatal("count", left)
			}
		}
	}
}

// P17.4: what is found hangs on the spans alone; of a tree more, that names none of the others and is named by none, on both apart.
func TestTheTreeAlone(t *testing.T) {
	r := rand.New(rand.NewPCG(17, 14))
	for range 4000 {
		l, more := drawn(r, 8, 1), drawn(r, 8, 100)
		e := tree(r, 3, api.OpEither, api.OpChild, api.OpBelow, api.OpBeside)
		f, g := built(t, l...), built(t, more...)
		apart := together(setOf(t, e, f), setOf(t, e, g))
		l = append(l, more...)
		r.Shuffle(len(l), func(i, j int) { l[i], l[j] = l[j], l[i] })
		if got := setOf(t, e, built(t, l...)); !slices.Equal(got, apart) {
			t.Fatalf("%+v: %v, not %v", e, got, apart)
		}
	}
}

// P17.4 and P4: not on the order in which spans were handed in, nor on the trace's name, nor on the calls ahead.
func TestTheSpansAlone(t *testing.T) {
	r := rand.New(rand.NewPCG(17, 15))
	for range 1500 {
		l := drawn(r, 10, 1)
		f := built(t, l...)
		q := api.Query{Set: anyTree(r, 3), Stages: []api.Stage{stage(r)}}
		want := found(t, q, f)
		for range 3 {
			r.Shuffle(len(l), func(i, j int) { l[i], l[j] = l[j], l[i] })
			for i := range l {
				l[i].Trace.Hi++
			}
			found(t, of(anyTree(r, 2)), f)
			errs(t, api.Query{}, f, api.ErrLangTree)
			if again, other := found(t, q, f), found(t, q, built(t, l...)); !slices.Equal(again, want) || !slices.Equal(other, want) {
				t.Fatal(again, other, want)
			}
		}
	}
}
