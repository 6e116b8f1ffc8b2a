package own_test

import (
	"math/rand/v2"
	"slices"
	"testing"

	"spoor/api"
	"spoor/forest"
	"spoor/ival"
	"spoor/own"
)

// last is the last moment of the small traces, as a number of units.
const last = 16

// small has a trace whose moments are numbers of units, from 0 up to last, so that each unit has one owner: the words are asked of its first moment.
type small struct {
	nodes map[api.SpanID]api.Node
	spans map[api.SpanID]api.Span
	unit  int64
}

func smallOf(f *forest.Forest, unit int64) small {
	m := small{nodes: map[api.SpanID]api.Node{}, spans: map[api.SpanID]api.Span{}, unit: unit}
	for _, id := range f.IDs() {
		m.nodes[id], _ = f.Node(id)
		m.spans[id], _ = f.Span(id)
	}
	return m
}

func (m small) running(id api.SpanID, at int64) bool {
	c := m.nodes[id].Clip
	return c.From <= at && at < c.To
}

// owner goes down from a root as the chapter says.
func (m small) owner(root api.SpanID, at int64) api.SpanID {
	id := root
	for {
		var best *api.Node
		for child, n := range m.nodes {
			if n.Parent != id || !m.running(child, at) {
				continue
			}
			if best == nil || n.Clip.From > best.Clip.From || n.Clip.From == best.Clip.From && child < best.ID {
				best = &n
			}
		}
		if best == nil {
			return id
		}
		id = best.ID
	}
}

// each calls with each unit of a span's Clip.
func (m small) each(id api.SpanID, call func(at int64)) {
	for at := m.nodes[id].Clip.From; at < m.nodes[id].Clip.To; at += m.unit {
		call(at)
	}
}

func (m small) legs(root api.SpanID) []api.Leg {
	var l []api.Leg
	m.each(root, func(at int64) {
		id := m.owner(root, at)
		if len(l) > 0 && l[len(l)-1].Owner == id {
			l[len(l)-1].To = at + m.unit
		} else {
			l = append(l, leg(id, at, at+m.unit))
		}
	})
	return l
}

func (m small) times(ids []api.SpanID) []api.Own {
	var l []api.Own
	for _, id := range ids {
		x := api.Own{ID: id}
		m.each(id, func(at int64) {
			x.Total += uint64(m.unit)
			alone := true
			for child, n := range m.nodes {
				alone = alone && !(n.Parent == id && m.running(child, at))
			}
			if alone {
				x.Exclusive += uint64(m.unit)
			}
			if m.owner(m.nodes[id].Tree, at) == id {
				x.Self += uint64(m.unit)
			}
		})
		l = append(l, x)
	}
	return l
}

func (m small) services(root api.SpanID) []api.ServiceShare {
	nanos := map[string]uint64{}
	m.each(root, func(at int64) { nanos[m.spans[m.owner(root, at)].Service] += uint64(m.unit) })
	var l []api.ServiceShare
	for _, name := range []string{"A", "a", "ab", "b", "ü"} {
		if nanos[name] > 0 {
			l = append(l, share(name, nanos[name]))
		}
	}
	return l
}

// agrees: do all calls tell of spans what the chapter's words say?
func agrees(t *testing.T, f *forest.Forest, unit int64) {
	t.Helper()
	m := smallOf(f, unit)
	times(t, f, m.times(f.IDs())...)
	for _, root := range f.Roots() {
		legs(t, f, root, m.legs(root)...)
		shares(t, f, root, m.services(root)...)
		c := m.nodes[root].Clip
		outside(t, f, root, c.From-1, c.To, c.To+1)
		m.each(root, func(at int64) {
			want := m.owner(root, at)
			owns(t, f, root, at, want)
			owns(t, f, root, at+unit-1, want)
		})
	}
	for id, n := range m.nodes {
		if n.Parent != 0 {
			refused(t, f, id, api.ErrOwnRoot)
		}
	}
	if t.Failed() {
		t.Fatalf("of %+v", m.spans)
	}
}

// drawn has spans of the services of the model, mostly in one tree, of small or great IDs; how far back a parent stands makes trees deep or flat.
func drawn(r *rand.Rand, most int, unit int64) []api.Span {
	pool := make([]api.SpanID, most)
	for i := range pool {
		pool[i] = api.SpanID(i + 1)
		if r.IntN(6) == 0 {
			pool[i] = api.SpanID(r.Uint64() | 1<<40)
		}
	}
	r.Shuffle(len(pool), func(i, j int) { pool[i], pool[j] = pool[j], pool[i] })
	services := []string{"A", "a", "ab", "b", "ü"}
	back := 1 + r.IntN(most)
	var l []api.Span
	for i, id := range pool[:r.IntN(most+1)] {
		a, b := r.Int64N(last+1), r.Int64N(last+1)
		s := one(id, 0, services[r.IntN(len(services))], min(a, b)*unit, max(a, b)*unit)
		switch {
		case i == 0:
			s.Start, s.End = r.Int64N(4)*unit, (last-r.Int64N(4))*unit
		case r.IntN(12) == 0:
			s.Parent = pool[r.IntN(len(pool))] // it may be missing, itself, or beneath this one: a ring
		case r.IntN(12) > 0:
			s.Parent = l[i-1-r.IntN(min(i, back))].ID
		}
		l = append(l, s)
	}
	return l
}

// All that the calls tell is what the chapter's words say: of three spans beneath a root, wherever each stands, from whatever moment up to whatever moment.
func TestEveryThree(t *testing.T) {
	var all []api.Interval
	for from := range int64(4) {
		for to := from; to < 4; to++ {
			all = append(all, api.Interval{From: from, To: to})
		}
	}
	for _, p := range [][2]api.SpanID{{1, 1}, {1, 2}, {1, 3}, {2, 1}, {2, 2}, {2, 3}} { // the parents of 3 and of 4
		for n := range len(all) * len(all) * len(all) {
			x, y, z := all[n%len(all)], all[n/len(all)%len(all)], all[n/len(all)/len(all)]
			f := built(t, one(1, 0, "a", 0, 3), one(2, 1, "b", x.From, x.To), one(3, p[0], "A", y.From, y.To), one(4, p[1], "b", z.From, z.To))
			agrees(t, f, 1)
		}
	}
}

// The same of more spans, in several trees; units that are as great as may be, too.
func TestDrawn(t *testing.T) {
	r := rand.New(rand.NewPCG(11, 1))
	for i := range 3000 {
		unit := []int64{1, 1, 1 << 58}[i%3]
		agrees(t, built(t, drawn(r, 3+r.IntN(12), unit)...), unit)
	}
	for range 30 {
		agrees(t, built(t, drawn(r, 60, 1)...), 1)
	}
}

// long has a trace with up to MaxTrace spans in one tree, whose children lie in their parents, with moments of their own.
func long(r *rand.Rand, n, back int) []api.Span {
	const end = 1 << 40
	l := []api.Span{one(1, 0, "a", 0, end)}
	for i := 1; i < n; i++ {
		p := l[i-1-r.IntN(min(i, back))]
		a, b := r.Int64N(end), r.Int64N(end)
		if r.IntN(4) > 0 && p.End > p.Start {
			a, b = p.Start+r.Int64N(p.End-p.Start+1), p.Start+r.Int64N(p.End-p.Start+1)
		}
		l = append(l, one(api.SpanID(i+1), p.ID, []string{"a", "b", "c"}[i%3], min(a, b), max(a, b)))
	}
	r.Shuffle(len(l), func(i, j int) { l[i], l[j] = l[j], l[i] })
	return l
}

// forests has traces of all kinds, of which the promises are asked.
func forests(t *testing.T, seed uint64) []*forest.Forest {
	r := rand.New(rand.NewPCG(11, seed))
	var all []*forest.Forest
	for range 1500 {
		all = append(all, built(t, drawn(r, 20, 1)...))
	}
	for _, back := range []int{1, 2, 10, 100, api.MaxTrace} {
		all = append(all, built(t, long(r, api.MaxTrace, back)...), built(t, long(r, 200, back)...))
	}
	return all
}

// P11.1: legs fill the root's Clip, each moment once, and Owner says the same.
func TestEachMomentOnce(t *testing.T) {
	r := rand.New(rand.NewPCG(11, 20))
	for _, f := range forests(t, 2) {
		for _, root := range f.Roots() {
			n, _ := f.Node(root)
			l, e := own.Legs(f, root)
			if e != api.OK {
				t.Fatal(e)
			}
			at, owner := n.Clip.From, api.SpanID(0)
			for _, x := range l {
				if x.From != at || x.To <= x.From || x.Owner == owner {
					t.Fatalf("%+v in %v", x, l)
				}
				at, owner = x.To, x.Owner
				if len(l) < 100 || r.IntN(20) == 0 {
					owns(t, f, root, x.From, x.Owner)
					owns(t, f, root, x.To-1, x.Owner)
					owns(t, f, root, x.From+r.Int64N(x.To-x.From), x.Owner)
				}
			}
			if at != n.Clip.To || t.Failed() {
				t.Fatalf("%+v: %v", n, l)
			}
		}
	}
}

// P11.2: each leg lies in its owner's Clip, and none of its moments in one of the children's.
func TestTheInnermost(t *testing.T) {
	for _, f := range forests(t, 3) {
		for _, root := range f.Roots() {
			l, _ := own.Legs(f, root)
			for _, x := range l {
				n, there := f.Node(x.Owner)
				if !there || n.Tree != root || x.From < n.Clip.From || x.To > n.Clip.To {
					t.Fatalf("%+v of %+v", x, n)
				}
				for _, id := range f.Children(x.Owner) {
					c, _ := f.Node(id)
					if max(c.Clip.From, x.From) < min(c.Clip.To, x.To) {
						t.Fatalf("%+v, while %+v is running", x, c)
					}
				}
			}
		}
	}
}

// P11.3: the Self of a tree's spans, and the Nanos of its services, are the root's Length.
func TestWhole(t *testing.T) {
	for _, f := range forests(t, 4) {
		self := map[api.SpanID]uint64{} // of each tree
		for _, x := range own.Times(f) {
			n, _ := f.Node(x.ID)
			self[n.Tree] += x.Self
		}
		for _, root := range f.Roots() {
			n, _ := f.Node(root)
			want := uint64(n.Clip.To - n.Clip.From)
			l, e := own.Services(f, root)
			var sum uint64
			for i, s := range l {
				if s.Nanos == 0 || i > 0 && l[i-1].Service >= s.Service {
					t.Fatal(l)
				}
				sum += s.Nanos
			}
			if e != api.OK || sum != want || self[root] != want {
				t.Fatalf("%+v: %d, services %d: %v", n, self[root], sum, l)
			}
		}
	}
}

// mixed counts, of each tree, the spans that have children with a moment in common.
func mixed(f *forest.Forest) map[api.SpanID]int {
	trees := map[api.SpanID]int{}
	for above := range f.Down() {
		var l []api.Interval
		var sum uint64
		for _, c := range f.Children(above.ID) {
			n, _ := f.Node(c)
			l, sum = append(l, n.Clip), sum+ival.Length(n.Clip)
		}
		if ival.Measure(l) != sum {
			trees[above.Tree]++
		}
	}
	return trees
}

// rows has a tree in which children follow one another, with room between them or none.
func rows(r *rand.Rand, n int) []api.Span {
	l := []api.Span{one(1, 0, "a", 0, 1<<30)}
	for i := 0; len(l) < n; i++ {
		at := l[i].Start
		for range 1 + r.IntN(5) {
			begin := min(at+r.Int64N(3)*(l[i].End-l[i].Start)/16, l[i].End)
			at = begin + r.Int64N(l[i].End-begin+1)/2
			l = append(l, one(api.SpanID(len(l)+1), l[i].ID, "b", begin, at))
		}
	}
	return l[:n]
}

// P11.4: Self is at most Exclusive, which is at most Total; where children do not run side by side, it is Exclusive.
func TestAlone(t *testing.T) {
	all := forests(t, 5)
	r := rand.New(rand.NewPCG(11, 50))
	for range 300 {
		all = append(all, built(t, rows(r, 2+r.IntN(40))...))
	}
	equal, less := 0, 0
	for _, f := range all {
		trees := mixed(f)
		for _, x := range own.Times(f) {
			n, _ := f.Node(x.ID)
			single := trees[n.Tree] == 0
			var children []api.Interval
			for _, id := range f.Children(x.ID) {
				c, _ := f.Node(id)
				children = append(children, c.Clip)
			}
			if x.Total != ival.Length(n.Clip) || x.Exclusive != ival.Measure(ival.Minus([]api.Interval{n.Clip}, children)) {
				t.Fatalf("%+v of %+v, beneath it %v", x, n, children)
			}
			if x.Self > x.Exclusive || single && x.Self != x.Exclusive {
				t.Fatalf("%+v of %+v, apart: %v", x, n, single)
			}
			if single && len(children) > 1 {
				equal++
			}
			if x.Self < x.Exclusive {
				less++
			}
		}
	}
	if equal < 500 || less < 500 {
		t.Error("few of one kind:", equal, less)
	}
}

// P11.5: Self is the sum of the legs of each span, of one that has none 0.
func TestSelfIsTheLegs(t *testing.T) {
	none := 0
	for _, f := range forests(t, 6) {
		sum := map[api.SpanID]uint64{}
		for _, root := range f.Roots() {
			l, _ := own.Legs(f, root)
			for _, x := range l {
				sum[x.Owner] += uint64(x.To - x.From)
			}
		}
		l := own.Times(f)
		ids := f.IDs()
		if len(l) != len(ids) {
			t.Fatal(len(l), len(ids))
		}
		for i, x := range l {
			if x.ID != ids[i] || x.Self != sum[x.ID] {
				t.Fatalf("%+v, not %d, at %d of %v", x, sum[x.ID], i, ids)
			}
			if x.Self == 0 && x.Total > 0 {
				none++
			}
		}
	}
	if none < 500 {
		t.Error("few own nothing:", none)
	}
}

// What is told hangs on the set of spans alone, and of a tree on that tree alone.
func TestTheSetAlone(t *testing.T) {
	r := rand.New(rand.NewPCG(11, 7))
	for range 500 {
		l := drawn(r, 20, 1)
		f := built(t, l...)
		r.Shuffle(len(l), func(i, j int) { l[i], l[j] = l[j], l[i] })
		g := built(t, l...)
		times(t, g, own.Times(f)...)
		for _, root := range f.Roots() {
			want, _ := own.Legs(f, root)
			by, _ := own.Services(f, root)
			alone := built(t, slices.DeleteFunc(slices.Clone(l), func(s api.Span) bool {
				n, _ := f.Node(s.ID)
				return n.Tree != root
			})...)
			for _, h := range []*forest.Forest{g, alone} {
				legs(t, h, root, want...)
				shares(t, h, root, by...)
			}
		}
		if t.Failed() {
			t.Fatalf("of %+v", l)
		}
	}
}
