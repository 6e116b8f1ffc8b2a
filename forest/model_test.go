package forest_test

import (
	"cmp"
	"math/rand/v2"
	"reflect"
	"slices"
	"testing"

	"spoor/api"
	"spoor/forest"
)

// trace is a plain set of spans, of which the chapter's words are asked one by one.
type trace map[api.SpanID]api.Span

func traceOf(l []api.Span) trace {
	m := trace{}
	for _, s := range l {
		m[s.ID] = s
	}
	return m
}

// names: the span's parent, if there is one of that ID.
func (m trace) names(id api.SpanID) (api.SpanID, bool) {
	p, there := m[m[id].Parent]
	return p.ID, there
}

// ring has the spans that are come by from a span on, up to itself again; none, if it is in no ring.
func (m trace) ring(id api.SpanID) []api.SpanID {
	l := ids(id)
	for range m {
		p, there := m.names(l[len(l)-1])
		switch {
		case !there:
			return nil
		case p == id:
			return l
		}
		l = append(l, p)
	}
	return nil
}

func (m trace) origin(id api.SpanID) api.Origin {
	_, names := m.names(id)
	switch {
	case !names && m[id].Parent == 0:
		return api.Born
	case !names:
		return api.Orphan
	case len(m.ring(id)) > 0 && slices.Min(m.ring(id)) == id:
		return api.Looped
	}
	return api.Inner
}

func (m trace) above(id api.SpanID) []api.SpanID {
	var l []api.SpanID
	for m.origin(id) == api.Inner {
		id = m[id].Parent
		l = append(l, id)
	}
	return l
}

// clip cuts as the words of layer 6 say.
func (m trace) clip(id api.SpanID) api.Interval {
	from, to := m[id].Start, m[id].End
	if m.origin(id) != api.Inner {
		return api.Interval{From: from, To: to}
	}
	w := m.clip(m[id].Parent)
	switch {
	case w.From == w.To:
		return api.Interval{From: w.From, To: w.From}
	case to <= w.From:
		return api.Interval{From: w.From, To: w.From}
	case from >= w.To:
		return api.Interval{From: w.To, To: w.To}
	}
	return api.Interval{From: max(from, w.From), To: min(to, w.To)}
}

func (m trace) node(id api.SpanID) api.Node {
	up := m.above(id)
	n := api.Node{ID: id, Origin: m.origin(id), Tree: id, Depth: len(up), Clip: m.clip(id)}
	if len(up) > 0 {
		n.Parent, n.Tree = up[0], up[len(up)-1]
	}
	return n
}

// beneath has the nodes whose Parent is that (of 0: the roots), in the order.
func (m trace) beneath(parent api.SpanID) []api.Node {
	var l []api.Node
	for id := range m {
		if n := m.node(id); n.Parent == parent {
			l = append(l, n)
		}
	}
	slices.SortFunc(l, func(a, b api.Node) int {
		return cmp.Or(cmp.Compare(a.Clip.From, b.Clip.From), cmp.Compare(a.ID, b.ID))
	})
	return l
}

func (m trace) down(parent api.SpanID) []api.Node {
	var l []api.Node
	for _, n := range m.beneath(parent) {
		l = append(append(l, n), m.down(n.ID)...)
	}
	return l
}

func idsOf(l []api.Node) []api.SpanID {
	var out []api.SpanID
	for _, n := range l {
		out = append(out, n.ID)
	}
	return out
}

// agrees: does the forest say of spans what the chapter's words say?
func agrees(t *testing.T, f *forest.Forest, l []api.Span) {
	t.Helper()
	m := traceOf(l)
	tells(t, "model", f, m.down(0)...)
	lists(t, "Roots", f.Roots(), idsOf(m.beneath(0))...)
	for id, s := range m {
		lists(t, "Children", f.Children(id), idsOf(m.beneath(id))...)
		lists(t, "Above", above(f, id), m.above(id)...)
		if got, there := f.Span(id); !there || !reflect.DeepEqual(got, s) {
			t.Errorf("Span: %+v, %v, not %+v", got, there, s)
		}
	}
	if t.Failed() {
		t.Fatalf("of %+v", l)
	}
}

// drawn has spans of a few IDs, small or great, whose parents are mostly there, themselves at times; their moments are a few, or as great as may be.
func drawn(r *rand.Rand, most int) []api.Span {
	pool := make([]api.SpanID, most+2)
	for i := range pool {
		pool[i] = api.SpanID(i + 1)
		if r.IntN(4) == 0 {
			pool[i] = api.SpanID(r.Uint64() | 1<<40)
		}
	}
	slices.Sort(pool)
	pool = slices.Compact(pool)
	parents := append(slices.Clone(pool), 0, 0)
	r.Shuffle(len(pool), func(i, j int) { pool[i], pool[j] = pool[j], pool[i] })
	shift := []int{0, 0, 0, 59}[r.IntN(4)]
	var l []api.Span
	for _, id := range pool[:r.IntN(most+1)] {
		a, b := r.Int64N(9)<<shift, r.Int64N(9)<<shift
		l = append(l, one(id, parents[r.IntN(len(parents))], min(a, b), max(a, b)))
	}
	return l
}

// All that the calls tell is what the chapter's words say, of every way in which four spans may name their parents.
func TestEveryFour(t *testing.T) {
	r := rand.New(rand.NewPCG(10, 1))
	parents := ids(0, 1, 2, 3, 4, 9)
	for way := range 6 * 6 * 6 * 6 {
		var l []api.Span
		for id := range api.SpanID(4) {
			a, b := r.Int64N(7), r.Int64N(7)
			l = append(l, one(id+1, parents[way%6], min(a, b), max(a, b)))
			way /= 6
		}
		r.Shuffle(len(l), func(i, j int) { l[i], l[j] = l[j], l[i] })
		agrees(t, built(t, l...), l)
	}
}

// P10.1: the same of more spans, and in whatever order they stand.
func TestTheSetAlone(t *testing.T) {
	r := rand.New(rand.NewPCG(10, 2))
	for range 1500 {
		l := drawn(r, 9)
		for range 3 {
			r.Shuffle(len(l), func(i, j int) { l[i], l[j] = l[j], l[i] })
			agrees(t, built(t, l...), l)
		}
	}
	for range 30 {
		l := drawn(r, 40)
		agrees(t, built(t, l...), l)
	}
}

// P10.2: every span is in just one tree.
func TestTrees(t *testing.T) {
	r := rand.New(rand.NewPCG(10, 3))
	for range 1000 {
		l := drawn(r, 25)
		f := built(t, l...)
		told := map[api.SpanID]int{}
		for n := range f.Down() {
			told[n.ID]++
		}
		stand := map[api.SpanID][]api.SpanID{} // among whose children a span stands; 0: among the roots
		for _, id := range f.Roots() {
			stand[id] = append(stand[id], 0)
		}
		for _, id := range f.IDs() {
			for _, c := range f.Children(id) {
				stand[c] = append(stand[c], id)
			}
		}
		for _, s := range l {
			n, there := f.Node(s.ID)
			up := append(ids(s.ID), above(f, s.ID)...)
			if !there || told[s.ID] != 1 || up[len(up)-1] != n.Tree || len(up)-1 != n.Depth {
				t.Fatalf("%+v, %v: told %d times, above %v", n, there, told[s.ID], up)
			}
			if !slices.Equal(stand[s.ID], ids(n.Parent)) || (n.Parent == 0) != (n.Origin != api.Inner) || n.Parent != 0 && n.Parent != s.Parent {
				t.Fatalf("%+v stands beneath %v", n, stand[s.ID])
			}
		}
		if len(told) != len(l) || len(stand) != len(l) || f.Count() != len(l) {
			t.Fatal(told, stand, f.Count(), l)
		}
	}
}

// P10.3: each Clip lies within the parent's, and has what all intervals up to the root have.
func TestClips(t *testing.T) {
	r := rand.New(rand.NewPCG(10, 4))
	full := 0
	for range 3000 {
		l := drawn(r, 9)
		f := built(t, l...)
		m := traceOf(l)
		for n := range f.Down() {
			from, to := m[n.ID].Start, m[n.ID].End
			for id := range f.Above(n.ID) {
				from, to = max(from, m[id].Start), min(to, m[id].End)
			}
			if from < to { // all of them have these moments
				full++
				if n.Clip != (api.Interval{From: from, To: to}) {
					t.Fatalf("%+v, not from %d to %d", n, from, to)
				}
			} else if n.Clip.From != n.Clip.To {
				t.Fatalf("%+v is not empty", n)
			}
			if p, there := f.Node(n.Parent); there && (n.Clip.From < p.Clip.From || n.Clip.To > p.Clip.To) {
				t.Fatalf("%+v outside of %+v", n, p)
			}
		}
	}
	if full < 3000 {
		t.Error("few Clips have moments:", full)
	}
}

// P10.4: in each ring just one span is a root, and no span is that is in no ring and names a parent.
func TestOneRootOfEachRing(t *testing.T) {
	r := rand.New(rand.NewPCG(10, 5))
	rings := 0
	for range 3000 {
		l := drawn(r, 12)
		f := built(t, l...)
		m := traceOf(l)
		for id := range m {
			n, _ := f.Node(id)
			ring := m.ring(id)
			roots := 0
			for _, other := range ring {
				if x, _ := f.Node(other); x.Origin != api.Inner {
					roots++
				}
			}
			_, names := m.names(id)
			switch {
			case len(ring) > 0 && roots != 1:
				t.Fatalf("%d roots in the ring %v", roots, ring)
			case len(ring) == 0 && names && n.Origin != api.Inner:
				t.Fatalf("%+v names a parent, and is in no ring", n)
			case len(ring) == 0 && n.Origin == api.Looped:
				t.Fatalf("%+v is in no ring", n)
			}
			if len(ring) > 1 {
				rings++
			}
		}
	}
	if rings < 1000 {
		t.Error("few rings:", rings)
	}
}

// P10.5: with one span more no other span's parent changes, but of those that name it, and in a ring that it closes.
func TestOneSpanMore(t *testing.T) {
	r := rand.New(rand.NewPCG(10, 6))
	changed, stayed := 0, 0
	for range 4000 {
		l := drawn(r, 10)
		if len(l) == 0 {
			continue
		}
		more := l[len(l)-1]
		f, g := built(t, l[:len(l)-1]...), built(t, l...)
		closed := traceOf(l).ring(more.ID)
		for _, s := range l[:len(l)-1] {
			before, _ := f.Node(s.ID)
			after, _ := g.Node(s.ID)
			if s.Parent == more.ID || slices.Contains(closed, s.ID) {
				changed++
				continue
			}
			stayed++
			if before.Parent != after.Parent || before.Origin != after.Origin {
				t.Fatalf("%+v was %+v ahead of %+v", after, before, more)
			}
		}
	}
	if changed < 1000 || stayed < 1000 {
		t.Error(changed, stayed)
	}
}

// A trace as long as may be is told as the words say.
func TestLongTraces(t *testing.T) {
	r := rand.New(rand.NewPCG(10, 7))
	for _, back := range []int{3, 50, api.MaxTrace} { // how far back a parent stands: deep trees, and flat ones
		l := []api.Span{one(1, 0, 0, 5000)}
		want := map[api.SpanID]int{1: 0} // depths
		for len(l) < api.MaxTrace {
			i := len(l)
			p := l[i-1-r.IntN(min(i, back))]
			s := one(api.SpanID(i+1), p.ID, p.Start, p.End)
			if s.End-s.Start > 2 {
				s.Start += r.Int64N(2)
				s.End -= r.Int64N(2)
			}
			l = append(l, s)
			want[s.ID] = want[p.ID] + 1
		}
		shuffled := slices.Clone(l)
		r.Shuffle(len(shuffled), func(i, j int) { shuffled[i], shuffled[j] = shuffled[j], shuffled[i] })
		f := built(t, shuffled...)
		n := 0
		for node := range f.Down() {
			s := l[node.ID-1]
			if node.Depth != want[s.ID] || node.Parent != s.Parent || node.Tree != 1 || node.Clip != (api.Interval{From: s.Start, To: s.End}) {
				t.Fatalf("%+v of %+v", node, s)
			}
			n++
		}
		if n != api.MaxTrace || f.Count() != n {
			t.Error(n, f.Count())
		}
	}
}
