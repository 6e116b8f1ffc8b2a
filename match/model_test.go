package match_test

import (
	"math/big"
	"math/rand/v2"
	"slices"
	"strings"
	"testing"

	"spoor/api"
	"spoor/forest"
	"spoor/lang"
	"spoor/match"
	"spoor/own"
)

// The model asks span by span, by the chapter's words: whether it is in a set is found by asking of others whether they are.

type model struct {
	f    *forest.Forest
	self map[api.SpanID]int64
}

func modelOf(f *forest.Forest) *model {
	m := &model{f: f, self: map[api.SpanID]int64{}}
	for _, root := range f.Roots() {
		l, _ := own.Legs(f, root)
		for _, x := range l {
			m.self[x.Owner] += x.To - x.From
		}
	}
	return m
}

func (m *model) span(id api.SpanID) api.Span {
	s, _ := m.f.Span(id)
	return s
}

func (m *model) node(id api.SpanID) api.Node {
	n, _ := m.f.Node(id)
	return n
}

// has is what a span has of a field: an int64, a string, a bool; nil, if it has nothing.
func (m *model) has(id api.SpanID, field string) any {
	s, n := m.span(id), m.node(id)
	switch field {
	case "service":
		return s.Service
	case "op":
		return s.Op
	case "kind":
		return int64(s.Kind)
	case "status":
		return int64(s.Status)
	case "dur":
		return s.End - s.Start
	case "self":
		return m.self[id]
	case "total":
		return n.Clip.To - n.Clip.From
	case "start":
		return s.Start
	case "depth":
		return int64(n.Depth)
	case "events":
		return int64(len(s.Events))
	case "links":
		return int64(len(s.Links))
	case "root":
		return slices.Contains(m.f.Roots(), id)
	case "born":
		return s.Parent == 0
	case "orphan":
		_, there := m.f.Node(s.Parent)
		return s.Parent != 0 && !there
	case "looped":
		_, there := m.f.Node(s.Parent)
		return n.Parent == 0 && there
	case "leaf":
		for _, other := range m.f.IDs() {
			if m.node(other).Parent == id {
				return false
			}
		}
		return true
	}
	return m.attribute(s, field[1:])
}

func (m *model) attribute(s api.Span, key string) any {
	i := slices.IndexFunc(s.Attrs, func(a api.Attr) bool { return a.Key == key })
	if i < 0 {
		return nil
	}
	switch v := s.Attrs[i].Value; v.Kind {
	case api.Text:
		return v.Text
	case api.Int:
		return v.Int
	default:
		return v.Int == 1
	}
}

// so tells whether an operator is so, by how one thing stands to the other.
func so(op api.Op, order int) bool {
	return slices.Contains(map[api.Op][]int{api.OpEq: {0}, api.OpNe: {-1, 1}, api.OpLt: {-1}, api.OpLe: {-1, 0}, api.OpGt: {1}, api.OpGe: {0, 1}}[op], order)
}

func (m *model) holds(c api.Expr, id api.SpanID) bool {
	switch c.Op {
	case api.OpAnd:
		return m.holds(c.Args[0], id) && m.holds(c.Args[1], id)
	case api.OpOr:
		return m.holds(c.Args[0], id) || m.holds(c.Args[1], id)
	case api.OpNot:
		return !m.holds(c.Args[0], id)
	}
	switch x := m.has(id, c.Field).(type) {
	case int64:
		return c.Value.Kind == api.Int && so(c.Op, big.NewInt(x).Cmp(big.NewInt(c.Value.Int)))
	case bool:
		return c.Value.Kind == api.Bool && (x == (c.Value.Int == 1)) == (c.Op == api.OpEq)
	case string:
		if c.Value.Kind == api.Text && c.Op == api.OpLike {
			return lang.Like(c.Value.Text, x)
		}
		return c.Value.Kind == api.Text && so(c.Op, strings.Compare(x, c.Value.Text))
	}
	return false
}

// someOf tells whether something is so of one of these spans.
func someOf(l []api.SpanID, is func(id api.SpanID) bool) bool { return slices.ContainsFunc(l, is) }

func (m *model) in(e api.Expr, id api.SpanID) bool {
	if e.Op == api.OpSpans {
		return len(e.Args) == 0 || m.holds(e.Args[0], id)
	}
	a := func(id api.SpanID) bool { return m.in(e.Args[0], id) }
	b := func(id api.SpanID) bool { return m.in(e.Args[1], id) }
	switch e.Op {
	case api.OpBoth:
		return (a(id) || b(id)) && someOf(m.f.IDs(), a) && someOf(m.f.IDs(), b)
	case api.OpEither:
		return a(id) || b(id)
	case api.OpChild:
		p := m.node(id).Parent
		return b(id) && p != 0 && a(p)
	case api.OpBelow:
		return b(id) && someOf(slices.Collect(m.f.Above(id)), a)
	}
	return b(id) && someOf(m.f.Children(m.node(id).Parent), func(other api.SpanID) bool { return other != id && a(other) })
}

func (m *model) set(e api.Expr) []api.SpanID {
	return slices.DeleteFunc(m.f.IDs(), func(id api.SpanID) bool { return !m.in(e, id) })
}

func (m *model) find(q api.Query) []api.SpanID {
	l := m.set(q.Set)
	for _, s := range q.Stages {
		if s.Name == "top" {
			l = m.top(l, s)
		} else if len(l) == 0 || !so(s.Op, m.amount(l, s).Cmp(big.NewInt(s.Int))) {
			l = nil
		}
	}
	return l
}

func (m *model) amount(l []api.SpanID, s api.Stage) *big.Int {
	if s.Name == "count" {
		return big.NewInt(int64(len(l)))
	}
	sum := new(big.Int)
	var one []*big.Int
	for _, id := range l {
		one = append(one, big.NewInt(m.has(id, s.Field).(int64)))
		sum.Add(sum, one[len(one)-1])
	}
	slices.SortFunc(one, (*big.Int).Cmp)
	return map[string]*big.Int{"min": one[0], "max": one[len(one)-1], "sum": sum}[s.Name]
}

// top takes the one that is ahead of all others, again and again.
func (m *model) top(l []api.SpanID, s api.Stage) []api.SpanID {
	l = slices.Clone(l)
	var out []api.SpanID
	for len(l) > 0 && int64(len(out)) < s.Int {
		best := 0
		for i, id := range l {
			if m.has(id, s.Field).(int64) > m.has(l[best], s.Field).(int64) {
				best = i
			}
		}
		out = append(out, l[best])
		l = slices.Delete(l, best, best+1)
	}
	slices.Sort(out)
	return out
}

func oneOf[T any](r *rand.Rand, l ...T) T { return l[r.IntN(len(l))] }

// drawn has a trace of up to so many spans, with IDs from a number on, all of whose fields have something.
func drawn(r *rand.Rand, most int, from api.SpanID) []api.Span {
	var l []api.Span
	for _, i := range r.Perm(most)[:max(r.IntN(most+1), r.IntN(most+1))] {
		s := one(from+api.SpanID(i), 0, oneOf(r, "a", "ab", "b", "é"), r.Int64N(10), 0)
		s.Op = oneOf(r, "a", "b", "a b", "?")
		s.Kind, s.Status = api.Kind(r.IntN(5)), api.Status(r.IntN(3))
		s.End = s.Start + r.Int64N(12)
		switch r.IntN(6) {
		case 0:
		case 1, 2: // it may not be there, or be its own
			s.Parent = from + api.SpanID(r.IntN(most))
		default:
			if len(l) > 0 {
				s.Parent = l[max(len(l)-1-r.IntN(3), 0)].ID
			}
		}
		for range r.IntN(3) {
			s.Links = append(s.Links, from+api.SpanID(most+len(s.Links)))
			s.Events = append(s.Events, api.Event{At: int64(len(s.Events)), Name: "e"})
		}
		s.Links = s.Links[:r.IntN(len(s.Links)+1)]
		for _, key := range []string{"k", "kk", "n"} {
			if r.IntN(2) > 0 {
				s.Attrs = append(s.Attrs, api.Attr{Key: key, Value: value(r)})
			}
		}
		l = append(l, s)
	}
	return l
}

func value(r *rand.Rand) api.Value {
	return oneOf(r, text(oneOf(r, "", "a", "1", "ab")), number(r.Int64N(5)-2), truth(r.Int64N(2)))
}

func six(r *rand.Rand) api.Op { return api.OpEq + api.Op(r.IntN(6)) }

// comparison is one of a field with a value that it takes.
func comparison(r *rand.Rand) api.Expr {
	some := oneOf(r, "a", "ab", "b", "", "a*", "?", "*b", "é", "1")
	switch r.IntN(7) {
	case 0:
		return is(oneOf(r, "service", "op"), oneOf(r, api.OpLike, six(r)), text(some))
	case 1:
		return is("kind", api.OpEq+api.Op(r.IntN(2)), number(r.Int64N(5)))
	case 2:
		return is("status", api.OpEq+api.Op(r.IntN(2)), number(r.Int64N(3)))
	case 3:
		return is(oneOf(r, "root", "born", "orphan", "looped", "leaf"), api.OpEq+api.Op(r.IntN(2)), truth(r.Int64N(2)))
	case 4:
		v := value(r)
		key := oneOf(r, ".k", ".kk", ".n", ".none")
		switch v.Kind {
		case api.Text:
			return is(key, oneOf(r, api.OpLike, six(r)), text(some))
		case api.Int:
			return is(key, six(r), v)
		}
		return is(key, api.OpEq+api.Op(r.IntN(2)), v)
	}
	return is(oneOf(r, "dur", "self", "total", "start", "depth", "events", "links"), six(r), number(r.Int64N(9)-1))
}

func condition(r *rand.Rand, deep int) api.Expr {
	if deep == 0 || r.IntN(3) == 0 {
		return comparison(r)
	}
	if r.IntN(3) == 0 {
		return neg(condition(r, deep-1))
	}
	return two(oneOf(r, api.OpAnd, api.OpOr), condition(r, deep-1), condition(r, deep-1))
}

// tree is a set, with one of these between sets.
func tree(r *rand.Rand, deep int, between ...api.Op) api.Expr {
	if deep == 0 || r.IntN(4) == 0 {
		if r.IntN(3) == 0 {
			return all()
		}
		return spans(condition(r, r.IntN(3)))
	}
	return two(oneOf(r, between...), tree(r, deep-1, between...), tree(r, deep-1, between...))
}

func anyTree(r *rand.Rand, deep int) api.Expr {
	return tree(r, deep, api.OpBoth, api.OpEither, api.OpChild, api.OpBelow, api.OpBeside)
}

func stage(r *rand.Rand) api.Stage {
	switch r.IntN(3) {
	case 0:
		return api.Stage{Name: "count", Op: six(r), Int: r.Int64N(8)}
	case 1:
		return api.Stage{Name: oneOf(r, "max", "min", "sum"), Field: oneOf(r, "dur", "self", "total"), Op: six(r), Int: r.Int64N(20) - 2}
	}
	return api.Stage{Name: "top", Field: oneOf(r, "dur", "self", "total", "start"), Int: 1 + r.Int64N(6)}
}

// opSpans is how many there are in a set.
func opSpans(e api.Expr) int {
	if e.Op == api.OpSpans {
		return 1
	}
	n := 0
	for _, a := range e.Args {
		n += opSpans(a)
	}
	return n
}

// All calls against the model.
func TestModel(t *testing.T) {
	r := rand.New(rand.NewPCG(17, 1))
	kinds := map[string]int{}
	for range 12000 {
		f := built(t, drawn(r, 9, oneOf(r, api.SpanID(1), 1<<63-5))...)
		m := modelOf(f)
		q := of(anyTree(r, r.IntN(4)))
		set := m.set(q.Set)
		finding(t, f, q, "a set", set)
		for range r.IntN(4) {
			q.Stages = append(q.Stages, stage(r))
		}
		want := m.find(q)
		finding(t, f, q, "a query", want)
		if n, e := match.Steps(q, f); n != opSpans(q.Set)*f.Count() || e != api.OK {
			t.Errorf("Steps: %d, %v", n, e)
		}
		if t.Failed() {
			s, _ := lang.Print(q)
			t.Fatalf("%s in %+v", s, slices.Collect(f.Down()))
		}
		switch len(want) {
		case 0:
			kinds["nothing"]++
		case f.Count():
			kinds["all"]++
		case len(set):
			kinds["some"]++
		default:
			kinds["less than the set"]++
		}
	}
	for _, k := range []string{"nothing", "all", "some", "less than the set"} {
		if kinds[k] < 500 {
			t.Error("few of one kind:", kinds)
		}
	}
}

// Single comparisons, of each field with each operator, against the model.
func TestModelOfConditions(t *testing.T) {
	r := rand.New(rand.NewPCG(17, 2))
	type asked struct {
		field string
		op    api.Op
		is    bool
	}
	seen := map[asked]int{}
	for range 3000 {
		f := built(t, drawn(r, 9, 1)...)
		m := modelOf(f)
		for range 12 {
			c := condition(r, r.IntN(3))
			for _, id := range f.IDs() {
				want := m.holds(c, id)
				if is, e := match.Holds(c, f, id); is != want || e != api.OK {
					t.Fatalf("%+v of %+v: %v, %v", c, m.span(id), is, e)
				}
				seen[asked{c.Field, c.Op, want}]++
			}
		}
	}
	for _, field := range []string{"service", "op", "kind", "status", "dur", "self", "total", "start", "depth", "events", "links", "root", "born", "orphan", "looped", "leaf", ".k", ".kk", ".n"} {
		for _, is := range []bool{true, false} {
			if seen[asked{field, api.OpEq, is}] < 10 || seen[asked{field, api.OpNe, is}] < 10 {
				t.Error("few of one kind:", field, is)
			}
		}
	}
}
