package sweep_test

import (
	"math/rand/v2"
	"slices"
	"testing"

	"spoor/api"
	"spoor/forest"
	"spoor/ival"
	"spoor/sweep"
)

// last is the last moment of the small traces, as a number of units.
const last = 16

// small has a trace whose moments are numbers of units, from 0 up to last, so that each unit hangs on one span: the words are asked of its first moment.
type small struct {
	nodes map[api.SpanID]api.Node
	spans map[api.SpanID]api.Span
	unit  int64
}

func smallOf(f *forest.Forest, unit int64) small {
	m := small{nodes: map[api.SpanID]api.Node{}, spans: map[api.SpanID]api.Span{}, unit: unit}
	for _, id := range f.IDs() {
		m.nodes[id], _ = f.Node(id)
		m.spans[id], _ = f.Span(id)
	}
	return m
}

// awaited is the child c of the chapter's rule, with its e.
func (m small) awaited(id api.SpanID, t int64) (c api.SpanID, e int64) {
	for child, n := range m.nodes {
		if n.Parent != id || n.Clip.From >= n.Clip.To || n.Clip.From >= t {
			continue
		}
		end := t
		if n.Clip.To < t {
			end = n.Clip.To
		}
		if c == 0 || end > e || end == e && child < c {
			c, e = child, end
		}
	}
	return c, e
}

// owner follows the path of a span up to t, as the chapter says, until it comes to a moment below that.
func (m small) owner(id api.SpanID, t, at int64) api.SpanID {
	for {
		c, e := m.awaited(id, t)
		switch {
		case c == 0 || at >= e:
			return id
		case at >= m.nodes[c].Clip.From:
			id, t = c, e
		default:
			t = m.nodes[c].Clip.From
		}
	}
}

// each calls with each unit of a root's Clip, and its owner.
func (m small) each(root api.SpanID, call func(at int64, owner api.SpanID)) {
	clip := m.nodes[root].Clip
	for at := clip.From; at < clip.To; at += m.unit {
		call(at, m.owner(root, clip.To, at))
	}
}

func (m small) legs(root api.SpanID) []api.Leg {
	var l []api.Leg
	m.each(root, func(at int64, owner api.SpanID) {
		if len(l) > 0 && l[len(l)-1].Owner == owner {
			l[len(l)-1].To = at + m.unit
		} else {
			l = append(l, leg(owner, at, at+m.unit))
		}
	})
	return l
}

func (m small) shares(root api.SpanID, ids []api.SpanID) []api.Share {
	nanos := map[api.SpanID]uint64{}
	m.each(root, func(at int64, owner api.SpanID) { nanos[owner] += uint64(m.unit) })
	var l []api.Share
	for _, id := range ids {
		if nanos[id] > 0 {
			l = append(l, share(id, nanos[id]))
		}
	}
	return l
}

func (m small) services(root api.SpanID) []api.ServiceShare {
	nanos := map[string]uint64{}
	m.each(root, func(at int64, owner api.SpanID) { nanos[m.spans[owner].Service] += uint64(m.unit) })
	var l []api.ServiceShare
	for _, name := range []string{"A", "a", "ab", "b", "ü"} {
		if nanos[name] > 0 {
			l = append(l, service(name, nanos[name]))
		}
	}
	return l
}

// latest is, of the spans of which a question says true, the one whose Clip has the greatest To, of several of the least ID; 0, if there is none.
func (m small) latest(counts func(n api.Node) bool) api.SpanID {
	var best api.SpanID
	for id, n := range m.nodes {
		to := m.nodes[best].Clip.To
		if counts(n) && (best == 0 || n.Clip.To > to || n.Clip.To == to && id < best) {
			best = id
		}
	}
	return best
}

func (m small) chain() []api.Hop {
	var hops []api.Hop
	var trees []api.SpanID
	gap := int64(0)
	from := m.latest(func(n api.Node) bool { return n.Parent == 0 })
	for from != 0 {
		root := m.nodes[from].Tree
		hops = append(hops, hop(root, from, gap, m.legs(root)...))
		trees = append(trees, root)
		from = m.latest(func(n api.Node) bool {
			return slices.Contains(m.spans[root].Links, n.ID) && !slices.Contains(trees, n.Tree)
		})
		gap = m.nodes[root].Clip.From - m.nodes[from].Clip.To
	}
	return hops
}

// agrees: do all calls tell of spans what the chapter's words say?
func agrees(t *testing.T, f *forest.Forest, unit int64) {
	t.Helper()
	m := smallOf(f, unit)
	for _, root := range f.Roots() {
		path(t, f, root, m.legs(root)...)
		shares(t, f, root, m.shares(root, f.IDs())...)
		services(t, f, root, m.services(root)...)
		c := m.nodes[root].Clip
		outside(t, f, root, c.From-1, c.To, c.To+1)
		m.each(root, func(at int64, owner api.SpanID) {
			owns(t, f, root, at, owner)
			owns(t, f, root, at+unit-1, owner)
		})
	}
	for id, n := range m.nodes {
		if n.Parent != 0 {
			refused(t, f, id, api.ErrOwnRoot)
		}
	}
	chain(t, f, m.chain()...)
	if t.Failed() {
		t.Fatalf("of %+v", m.spans)
	}
}

// linked gives spans links to one another, and to some that are not there.
func linked(r *rand.Rand, l []api.Span, pool []api.SpanID) {
	for i := range l {
		for range r.IntN(6) {
			if to := pool[r.IntN(len(pool))]; to != l[i].ID {
				l[i].Links = append(l[i].Links, to)
			}
		}
		slices.Sort(l[i].Links)
		l[i].Links = slices.Compact(l[i].Links)
	}
}

// drawn has spans of the services of the model, of small or great IDs, with links; how far back a parent stands makes trees deep or flat. One span of so many begins a tree of its own.
func drawn(r *rand.Rand, most, apart int, unit int64) []api.Span {
	pool := make([]api.SpanID, most)
	for i := range pool {
		pool[i] = api.SpanID(i + 1)
		if r.IntN(6) == 0 {
			pool[i] = api.SpanID(r.Uint64() | 1<<40)
		}
	}
	r.Shuffle(len(pool), func(i, j int) { pool[i], pool[j] = pool[j], pool[i] })
	names := []string{"A", "a", "ab", "b", "ü"}
	back := 1 + r.IntN(most)
	var l []api.Span
	for i, id := range pool[:r.IntN(most+1)] {
		a, b := r.Int64N(last+1), r.Int64N(last+1)
		s := one(id, 0, names[r.IntN(len(names))], min(a, b)*unit, max(a, b)*unit)
		switch {
		case i == 0:
			s.Start, s.End = r.Int64N(4)*unit, (last-r.Int64N(4))*unit
		case r.IntN(12) == 0:
			s.Parent = pool[r.IntN(len(pool))] // it may be missing, itself, or beneath this one: a ring
		case r.IntN(apart) > 0:
			s.Parent = l[i-1-r.IntN(min(i, back))].ID
		}
		l = append(l, s)
	}
	linked(r, l, pool)
	return l
}

// All that the calls tell is what the chapter's words say: of three spans beneath a root, wherever each stands, from whatever moment up to whatever moment.
func TestEveryThree(t *testing.T) {
	var all []api.Interval
	for from := range int64(4) {
		for to := from; to < 4; to++ {
			all = append(all, api.Interval{From: from, To: to})
		}
	}
	for _, p := range [][2]api.SpanID{{1, 1}, {1, 2}, {1, 3}, {2, 1}, {2, 2}, {2, 3}} { // the parents of 3 and of 4
		for n := range len(all) * len(all) * len(all) {
			x, y, z := all[n%len(all)], all[n/len(all)%len(all)], all[n/len(all)/len(all)]
			f := built(t, one(1, 0, "a", 0, 3), one(2, 1, "b", x.From, x.To), one(3, p[0], "A", y.From, y.To), one(4, p[1], "b", z.From, z.To))
			agrees(t, f, 1)
		}
	}
}

// The same of chains: of three spans in one, two or three trees, whichever links they have to one another, whenever they end.
func TestEveryChainOfThree(t *testing.T) {
	links := func(id api.SpanID, pick int) []api.SpanID {
		var l []api.SpanID
		for other := range api.SpanID(4) {
			if other != 0 && other != id {
				if pick%2 == 1 {
					l = append(l, other)
				}
				pick /= 2
			}
		}
		return l
	}
	for _, p := range [][3]api.SpanID{{0, 0, 0}, {0, 1, 0}, {0, 0, 1}, {2, 0, 0}, {0, 0, 2}, {3, 0, 0}, {0, 3, 0}, {0, 1, 2}} { // the parents
		for ends := range 27 {
			for pick := range 64 {
				var l []api.Span
				for i, div := range []int{1, 3, 9} {
					id := api.SpanID(i + 1)
					l = append(l, one(id, p[i], "a", int64(i%2), int64(1+ends/div%3), links(id, pick>>(2*i)%4)...))
				}
				agrees(t, built(t, l...), 1)
			}
		}
	}
}

// The same of more spans, in several trees; units that are as great as may be, too.
func TestDrawn(t *testing.T) {
	r := rand.New(rand.NewPCG(12, 1))
	for i := range 3000 {
		unit := []int64{1, 1, 1 << 58}[i%3]
		agrees(t, built(t, drawn(r, 3+r.IntN(12), []int{2, 4, 12}[i/3%3], unit)...), unit)
	}
	for range 30 {
		agrees(t, built(t, drawn(r, 60, 12, 1)...), 1)
	}
}

// long has a trace with up to MaxTrace spans, whose children lie in their parents, with moments of their own; one of so many begins a tree.
func long(r *rand.Rand, n, back, apart int) []api.Span {
	const end = 1 << 40
	l := []api.Span{one(1, 0, "a", 0, end)}
	pool := []api.SpanID{1, 5000}
	for i := 1; i < n; i++ {
		p := l[i-1-r.IntN(min(i, back))]
		a, b := r.Int64N(end), r.Int64N(end)
		if r.IntN(4) > 0 && p.End > p.Start {
			a, b = p.Start+r.Int64N(p.End-p.Start+1), p.Start+r.Int64N(p.End-p.Start+1)
		}
		s := one(api.SpanID(i+1), p.ID, []string{"a", "b", "c"}[i%3], min(a, b), max(a, b))
		if r.IntN(apart) == 0 {
			s.Parent = 0
		}
		l, pool = append(l, s), append(pool, s.ID)
	}
	linked(r, l, pool)
	r.Shuffle(len(l), func(i, j int) { l[i], l[j] = l[j], l[i] })
	return l
}

// forests has traces of all kinds, of which the promises are asked.
func forests(t *testing.T, seed uint64) []*forest.Forest {
	r := rand.New(rand.NewPCG(12, seed))
	var all []*forest.Forest
	for i := range 1500 {
		all = append(all, built(t, drawn(r, 20, []int{2, 6, 40}[i%3], 1)...))
	}
	for _, back := range []int{1, 2, 10, 100, api.MaxTrace} {
		for _, apart := range []int{5, api.MaxTrace * 10} {
			all = append(all, built(t, long(r, api.MaxTrace, back, apart)...), built(t, long(r, 200, back, apart)...))
		}
	}
	return all
}

// P12.2: legs fill the root's Clip, each moment once.
func TestItTiles(t *testing.T) {
	many, none := 0, 0
	for _, f := range forests(t, 2) {
		for _, root := range f.Roots() {
			n, _ := f.Node(root)
			l, e := sweep.Path(f, root)
			at, owner := n.Clip.From, api.SpanID(0)
			for _, x := range l {
				if x.From != at || x.To <= x.From || x.Owner == owner {
					t.Fatalf("%+v in %v", x, l)
				}
				at, owner = x.To, x.Owner
			}
			if at != n.Clip.To || e != api.OK {
				t.Fatalf("%+v: %v, %v", n, l, e)
			}
			switch {
			case len(l) > 3:
				many++
			case len(l) == 0:
				none++
			}
		}
	}
	if many < 300 || none < 100 {
		t.Error("few of one kind:", many, none)
	}
}

// P12.3: each leg lies in its owner's Clip, and none of its moments in one of the children's.
func TestNothingBeneath(t *testing.T) {
	beside := 0
	for _, f := range forests(t, 3) {
		for _, root := range f.Roots() {
			l, _ := sweep.Path(f, root)
			for _, x := range l {
				n, there := f.Node(x.Owner)
				if !there || n.Tree != root || x.From < n.Clip.From || x.To > n.Clip.To {
					t.Fatalf("%+v of %+v", x, n)
				}
				for _, id := range f.Children(x.Owner) {
					c, _ := f.Node(id)
					if max(c.Clip.From, x.From) < min(c.Clip.To, x.To) {
						t.Fatalf("%+v, while %+v is running", x, c)
					}
					beside++
				}
			}
		}
	}
	if beside < 1000 {
		t.Error("few legs of spans with children:", beside)
	}
}

// alone is the Length of a span's Clip less the Measure of its children's.
func alone(f *forest.Forest, id api.SpanID) uint64 {
	var children []api.Interval
	for _, c := range f.Children(id) {
		n, _ := f.Node(c)
		children = append(children, n.Clip)
	}
	n, _ := f.Node(id)
	return ival.Length(n.Clip) - ival.Measure(children)
}

// P12.4 (and T5): shares, and those of services, come to the root's Length; none is above what its span did alone.
func TestShares(t *testing.T) {
	equal, less := 0, 0
	for _, f := range forests(t, 4) {
		for _, root := range f.Roots() {
			n, _ := f.Node(root)
			l, e := sweep.Shares(f, root)
			by, e2 := sweep.Services(f, root)
			var sum, all uint64
			for i, x := range l {
				most := alone(f, x.ID)
				if x.Nanos == 0 || x.Nanos > most || i > 0 && l[i-1].ID >= x.ID {
					t.Fatalf("%+v of %v, alone %d", x, l, most)
				}
				if sum += x.Nanos; x.Nanos < most {
					less++
				} else if len(f.Children(x.ID)) > 0 {
					equal++
				}
			}
			for i, x := range by {
				if x.Nanos == 0 || i > 0 && by[i-1].Service >= x.Service {
					t.Fatal(by)
				}
				all += x.Nanos
			}
			if want := ival.Length(n.Clip); e != api.OK || e2 != api.OK || sum != want || all != want {
				t.Fatalf("%+v: %d, services %d: %v, %v", n, sum, all, l, by)
			}
		}
	}
	if equal < 500 || less < 500 {
		t.Error("few of one kind:", equal, less)
	}
}

// P12.5: Owner of a moment is the owner of the leg that has it.
func TestMoments(t *testing.T) {
	r := rand.New(rand.NewPCG(12, 50))
	for _, f := range forests(t, 5) {
		for _, root := range f.Roots() {
			n, _ := f.Node(root)
			l, _ := sweep.Path(f, root)
			outside(t, f, root, n.Clip.From-1, n.Clip.To)
			for _, x := range l {
				if len(l) < 100 || r.IntN(20) == 0 {
					owns(t, f, root, x.From, x.Owner)
					owns(t, f, root, x.To-1, x.Owner)
					owns(t, f, root, x.From+r.Int64N(x.To-x.From), x.Owner)
				}
			}
			if t.Failed() {
				t.Fatalf("%+v: %v", n, l)
			}
		}
	}
}

// P12.6: no tree is twice in a chain; each hop's Legs are the path of its Root, and its From is a span of that tree, to which the root of the hop ahead has a link.
func TestChains(t *testing.T) {
	lengths := make([]int, 5)
	within := 0
	for _, f := range forests(t, 6) {
		hops := sweep.Chain(f)
		seen := map[api.SpanID]int{}
		for i, h := range hops {
			n, there := f.Node(h.From)
			if seen[h.Root]++; !there || n.Tree != h.Root || seen[h.Root] > 1 {
				t.Fatalf("%+v in %+v", h, hops)
			}
			path(t, f, h.Root, h.Legs...)
			if i == 0 {
				continue
			}
			if h.From != h.Root {
				within++
			}
			above, _ := f.Span(hops[i-1].Root)
			if !slices.Contains(above.Links, h.From) || h.Gap != above.Start-n.Clip.To {
				t.Fatalf("%+v behind %+v", h, above)
			}
		}
		if len(hops) == 0 != (f.Count() == 0) || t.Failed() {
			t.Fatalf("%+v of %v", hops, slices.Collect(f.Down()))
		}
		lengths[min(len(hops), 4)]++
	}
	if slices.Min(lengths) < 30 || within < 200 {
		t.Error("few of one kind:", lengths, within)
	}
}

// What is told hangs on the set of spans alone, and of a tree on that tree alone.
func TestTheSetAlone(t *testing.T) {
	r := rand.New(rand.NewPCG(12, 7))
	for range 500 {
		l := drawn(r, 20, 6, 1)
		f := built(t, l...)
		r.Shuffle(len(l), func(i, j int) { l[i], l[j] = l[j], l[i] })
		g := built(t, l...)
		chain(t, g, sweep.Chain(f)...)
		for _, root := range f.Roots() {
			want, _ := sweep.Path(f, root)
			parts, _ := sweep.Shares(f, root)
			by, _ := sweep.Services(f, root)
			single := built(t, slices.DeleteFunc(slices.Clone(l), func(s api.Span) bool {
				n, _ := f.Node(s.ID)
				return n.Tree != root
			})...)
			for _, h := range []*forest.Forest{g, single} {
				path(t, h, root, want...)
				shares(t, h, root, parts...)
				services(t, h, root, by...)
			}
			chain(t, single, hop(root, root, 0, want...))
		}
		if t.Failed() {
			t.Fatalf("of %+v", l)
		}
	}
}
