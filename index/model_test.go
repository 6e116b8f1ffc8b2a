package index_test

import (
	"cmp"
	"math/rand/v2"
	"slices"
	"strconv"
	"testing"

	"spoor/api"
	"spoor/forest"
	"spoor/index"
	"spoor/lang"
	"spoor/match"
)

// The model keeps the spans themselves, and asks each of them, by the chapter's words.

type model map[api.TraceID][]api.Span

func spanHas(s api.Span, tm api.Term) bool {
	switch tm.Field {
	case "service":
		return tm.Value == s.Service
	case "op":
		return tm.Value == s.Op
	case "kind":
		return tm.Value == []string{"internal", "server", "client", "producer", "consumer"}[s.Kind]
	case "status":
		return tm.Value == []string{"unset", "fine", "failed"}[s.Status]
	}
	return slices.ContainsFunc(s.Attrs, func(a api.Attr) bool {
		return tm.Field == "."+a.Key && tm.Value == written(a.Value)
	})
}

func written(v api.Value) string {
	return map[api.ValueKind]string{api.Text: `"` + v.Text, api.Int: strconv.Itoa(int(v.Int)), api.Bool: map[int64]string{0: "false", 1: "true"}[v.Int]}[v.Kind]
}

func (m model) has(trace api.TraceID, tm api.Term) bool {
	return slices.ContainsFunc(m[trace], func(s api.Span) bool { return spanHas(s, tm) })
}

// that has the traces of which something is so, rising.
func (m model) that(is func(trace api.TraceID) bool) []api.TraceID {
	var l []api.TraceID
	for trace := range m {
		if is(trace) {
			l = append(l, trace)
		}
	}
	slices.SortFunc(l, func(a, b api.TraceID) int { return cmp.Or(cmp.Compare(a.Hi, b.Hi), cmp.Compare(a.Lo, b.Lo)) })
	return l
}

// needed tells whether an expression needs a term.
func needed(e api.Expr, tm api.Term) bool {
	part := func(i int) bool { return i < len(e.Args) && needed(e.Args[i], tm) }
	switch e.Op {
	case api.OpSpans:
		return part(0)
	case api.OpBoth, api.OpChild, api.OpBelow, api.OpBeside, api.OpAnd:
		return part(0) || part(1)
	case api.OpEither, api.OpOr:
		return part(0) && part(1)
	case api.OpEq:
		return e.Field == tm.Field && spanHas(spanOf(e.Field, e.Value), tm)
	}
	return false
}

// spanOf is a span that has a value of a field, where it can be seen in a term.
func spanOf(field string, v api.Value) api.Span {
	s := api.Span{Service: v.Text, Op: v.Text}
	switch field {
	case "kind":
		s.Kind = api.Kind(v.Int)
	case "status":
		s.Status = api.Status(v.Int)
	case "service", "op":
	default:
		s.Attrs = []api.Attr{{Key: field[1:], Value: v}}
	}
	return s
}

// vocabulary has all terms that random spans and queries can have.
func vocabulary() []api.Term {
	var l []api.Term
	for _, s := range []string{"a", "b", "c"} {
		l = append(l, term("service", s), term("op", s))
	}
	for _, s := range []string{"internal", "server", "client", "producer", "consumer"} {
		l = append(l, term("kind", s))
	}
	for _, s := range []string{"unset", "fine", "failed"} {
		l = append(l, term("status", s))
	}
	for _, k := range []string{".k", ".m"} {
		for _, v := range []string{`"`, `"1`, "0", "1", "-1", "false", "true"} {
			l = append(l, term(k, v))
		}
	}
	return l
}

func pick[T any](r *rand.Rand, l ...T) T { return l[r.IntN(len(l))] }

func randomValue(r *rand.Rand) api.Value {
	return pick(r, text(""), text("1"), number(0), number(1), number(-1), truth(0), truth(1))
}

func randomSpan(r *rand.Rand, trace api.TraceID) api.Span {
	s := plain(trace, api.SpanID(1+r.IntN(5)), pick(r, "a", "b", "c"), pick(r, "a", "b", "c"))
	s.Parent, s.Kind, s.Status = api.SpanID(r.IntN(6)), api.Kind(r.IntN(5)), api.Status(r.IntN(3))
	s.End = int64(r.IntN(3))
	for _, k := range []string{"k", "m"} {
		if r.IntN(2) == 0 {
			s.Attrs = append(s.Attrs, api.Attr{Key: k, Value: randomValue(r)})
		}
	}
	return s
}

func randomSpans(r *rand.Rand, trace api.TraceID) []api.Span {
	var l []api.Span
	for range r.IntN(5) {
		l = append(l, randomSpan(r, trace))
	}
	return l
}

func randomComparison(r *rand.Rand) api.Expr {
	op := pick(r, api.OpEq, api.OpEq, api.OpEq, api.OpNe)
	switch r.IntN(6) {
	case 0:
		return is("service", op, text(pick(r, "a", "b", "c")))
	case 1:
		return is("op", op, text(pick(r, "a", "b", "c")))
	case 2:
		return is("kind", op, number(int64(r.IntN(5))))
	case 3:
		return is("status", op, number(int64(r.IntN(3))))
	case 4:
		return is(pick(r, "root", "leaf"), op, truth(int64(r.IntN(2))))
	}
	return is(pick(r, ".k", ".m"), op, randomValue(r))
}

func randomCondition(r *rand.Rand, deep int) api.Expr {
	if deep == 0 || r.IntN(3) == 0 {
		return randomComparison(r)
	}
	if r.IntN(5) == 0 {
		return neg(randomCondition(r, deep-1))
	}
	return two(pick(r, api.OpAnd, api.OpOr), randomCondition(r, deep-1), randomCondition(r, deep-1))
}

func randomSet(r *rand.Rand, deep int) api.Expr {
	if deep == 0 || r.IntN(3) == 0 {
		if r.IntN(6) == 0 {
			return all()
		}
		return spans(randomCondition(r, 3))
	}
	return two(pick(r, api.OpBoth, api.OpEither, api.OpChild, api.OpBelow, api.OpBeside), randomSet(r, deep-1), randomSet(r, deep-1))
}

func randomQuery(t *testing.T, r *rand.Rand) api.Query {
	q := of(randomSet(r, 3))
	if r.IntN(4) == 0 {
		q.Stages = []api.Stage{{Name: "count", Op: pick(r, api.OpGt, api.OpEq), Int: int64(r.IntN(3))}}
	}
	if e := lang.Check(q); e != api.OK {
		t.Fatalf("%+v: %v", q, e)
	}
	return q
}

func randomTrace(r *rand.Rand) api.TraceID {
	return api.TraceID{Hi: uint64(r.IntN(3)), Lo: uint64(1 + r.IntN(3))}
}

// Terms, span by span, of all that there can be.
func TestTermsOfModel(t *testing.T) {
	r := rand.New(rand.NewPCG(18, 1))
	for range 2000 {
		s := randomSpan(r, lo(1))
		want := slices.DeleteFunc(vocabulary(), func(tm api.Term) bool { return !spanHas(s, tm) })
		slices.SortFunc(want, func(a, b api.Term) int {
			return cmp.Or(cmp.Compare(a.Field, b.Field), cmp.Compare(a.Value, b.Value))
		})
		termsAre(t, s, want)
	}
}

// Plans, term by term.
func TestPlanOfModel(t *testing.T) {
	r := rand.New(rand.NewPCG(18, 2))
	long := 0
	for range 5000 {
		q := randomQuery(t, r)
		want := slices.DeleteFunc(vocabulary(), func(tm api.Term) bool { return !needed(q.Set, tm) })
		slices.SortFunc(want, func(a, b api.Term) int {
			return cmp.Or(cmp.Compare(a.Field, b.Field), cmp.Compare(a.Value, b.Value))
		})
		if l := planned(t, q); !slices.Equal(l, want) {
			t.Fatalf("%+v: %q, not %q", q, l, want)
		}
		if len(want) > 2 {
			long++
		}
	}
	if long < 100 {
		t.Error(long)
	}
}

// An index that is set over and over, against the spans themselves.
func TestIndexOfModel(t *testing.T) {
	r := rand.New(rand.NewPCG(18, 3))
	vocab := vocabulary()
	for range 60 {
		x, m := index.New(), model{}
		for range 40 {
			trace := randomTrace(r)
			l := randomSpans(r, trace)
			if r.IntN(8) == 0 && len(l) > 0 {
				l[r.IntN(len(l))].Trace.Hi += 100
				if e := x.Set(trace, l); e != api.ErrArg {
					t.Fatal(e)
				}
				continue
			}
			set(t, x, trace, l...)
			delete(m, trace)
			if len(l) > 0 {
				m[trace] = l
			}
			tm := pick(r, vocab...)
			has(t, x, tm, m.that(func(trace api.TraceID) bool { return m.has(trace, tm) })...)
			q := randomQuery(t, r)
			want := m.that(func(trace api.TraceID) bool {
				return !slices.ContainsFunc(vocab, func(tm api.Term) bool { return needed(q.Set, tm) && !m.has(trace, tm) })
			})
			if l := candidates(t, x, q); !slices.Equal(l, want) {
				t.Fatalf("%+v: %v, not %v", q, l, want)
			}
		}
		for _, tm := range vocab {
			has(t, x, tm, m.that(func(trace api.TraceID) bool { return m.has(trace, tm) })...)
		}
	}
}

// P18.2: a trace in which a query finds a span has all terms of its plan, and is among the candidates.
func TestNothingIsMissed(t *testing.T) {
	r := rand.New(rand.NewPCG(18, 4))
	hits, left := 0, 0
	for range 400 {
		x := index.New()
		forests := map[api.TraceID]*forest.Forest{}
		have := map[api.TraceID][]api.Term{}
		for range 6 {
			trace := randomTrace(r)
			l := randomSpans(r, trace)
			slices.SortFunc(l, func(a, b api.Span) int { return cmp.Compare(a.ID, b.ID) })
			l = slices.CompactFunc(l, func(a, b api.Span) bool { return a.ID == b.ID })
			set(t, x, trace, l...)
			f, e := forest.Build(l)
			if e != api.OK {
				t.Fatal(e)
			}
			forests[trace], have[trace] = f, nil
			for _, s := range l {
				have[trace] = append(have[trace], index.Terms(s)...)
			}
		}
		for range 20 {
			q := randomQuery(t, r)
			candidates, plan := candidates(t, x, q), planned(t, q)
			for trace, f := range forests {
				found, e := match.Find(q, f)
				if e != api.OK {
					t.Fatal(e)
				}
				in := slices.Contains(candidates, trace)
				if len(found) > 0 && (!in || slices.ContainsFunc(plan, func(tm api.Term) bool { return !slices.Contains(have[trace], tm) })) {
					t.Fatalf("%+v finds %v in %v, which is no candidate", q, found, trace)
				}
				hits += min(1, len(found))
				if !in {
					left++
				}
			}
		}
	}
	if hits < 1000 || left < 1000 {
		t.Error(hits, left)
	}
}
