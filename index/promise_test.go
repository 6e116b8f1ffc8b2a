package index_test

import (
	"cmp"
	"math/rand/v2"
	"reflect"
	"slices"
	"testing"

	"spoor/api"
	"spoor/index"
)

// told is all that an index says of the random terms, and of some queries.
func told(t *testing.T, x *index.Index, queries []api.Query) []any {
	t.Helper()
	var l []any
	for _, tm := range vocabulary() {
		l = append(l, x.Count(tm), len(x.Traces(tm)))
		for _, trace := range x.Traces(tm) {
			l = append(l, trace)
		}
	}
	for _, q := range queries {
		c := candidates(t, x, q)
		l = append(l, len(c))
		for _, trace := range c {
			l = append(l, trace)
		}
	}
	return l
}

// P18.3: what counts is what each trace was set to last, not what was ahead of that, nor the order of the traces, nor that of the spans.
func TestTheLastOneCounts(t *testing.T) {
	r := rand.New(rand.NewPCG(18, 5))
	for range 60 {
		queries := []api.Query{read(t, `{}`)}
		for range 10 {
			queries = append(queries, randomQuery(t, r))
		}
		x, last := index.New(), map[api.TraceID][]api.Span{}
		for range 30 {
			trace := randomTrace(r)
			last[trace] = randomSpans(r, trace)
			set(t, x, trace, last[trace]...)
		}
		var order []api.TraceID
		for trace := range last {
			order = append(order, trace)
		}
		slices.SortFunc(order, func(a, b api.TraceID) int { return cmp.Or(cmp.Compare(a.Hi, b.Hi), cmp.Compare(a.Lo, b.Lo)) })
		want := told(t, x, queries)
		for range 3 {
			r.Shuffle(len(order), func(i, j int) { order[i], order[j] = order[j], order[i] })
			other := index.New()
			for _, trace := range order {
				l := slices.Clone(last[trace])
				r.Shuffle(len(l), func(i, j int) { l[i], l[j] = l[j], l[i] })
				set(t, other, trace, l...)
			}
			if got := told(t, other, queries); !reflect.DeepEqual(got, want) {
				t.Fatalf("%v, not %v", got, want)
			}
		}
	}
}

// P18.4: the plan of two sets is what theirs have together, or, of ||, what both have; stages change none.
func TestPlansOfTwo(t *testing.T) {
	r := rand.New(rand.NewPCG(18, 6))
	some := 0
	for range 3000 {
		a, b := randomSet(r, 2), randomSet(r, 2)
		if r.IntN(3) == 0 {
			b = two(api.OpChild, b, a) // so that they have something in common
		}
		pa, pb := planned(t, of(a)), planned(t, of(b))
		sum := slices.Concat(pa, pb)
		slices.SortFunc(sum, func(s, t api.Term) int { return cmp.Or(cmp.Compare(s.Field, t.Field), cmp.Compare(s.Value, t.Value)) })
		sum = slices.Compact(sum)
		for _, op := range []api.Op{api.OpBoth, api.OpChild, api.OpBelow, api.OpBeside} {
			if l := planned(t, of(two(op, a, b))); !slices.Equal(l, sum) {
				t.Fatalf("%v of %+v and %+v: %q, not %q", op, a, b, l, sum)
			}
		}
		both := slices.DeleteFunc(slices.Clone(pa), func(tm api.Term) bool { return !slices.Contains(pb, tm) })
		if l := planned(t, of(two(api.OpEither, a, b))); !slices.Equal(l, both) {
			t.Fatalf("%+v or %+v: %q, not %q", a, b, l, both)
		}
		q := api.Query{Set: a, Stages: []api.Stage{{Name: "count", Op: api.OpLt, Int: 5}, {Name: "top", Field: "dur", Int: 3}}}
		if l := planned(t, q); !slices.Equal(l, pa) {
			t.Fatalf("%+v: %q, not %q", q, l, pa)
		}
		some += min(1, len(both))
	}
	if some < 100 {
		t.Error(some)
	}
}
