package match_test

import (
	"math"
	"slices"
	"strings"
	"testing"

	"spoor/api"
	"spoor/forest"
	"spoor/lang"
	"spoor/match"
)

func one(id, parent api.SpanID, service string, start, end int64) api.Span {
	return api.Span{Trace: api.TraceID{Lo: 7}, ID: id, Parent: parent, Service: service, Op: "b", Start: start, End: end}
}

// with is a span in which something is turned.
func with(s api.Span, turn func(s *api.Span)) api.Span {
	turn(&s)
	return s
}

func built(t *testing.T, l ...api.Span) *forest.Forest {
	t.Helper()
	f, e := forest.Build(l)
	if e != api.OK || f == nil {
		t.Fatal(f, e)
	}
	return f
}

// example is the chapter's trace.
func example(t *testing.T) *forest.Forest {
	return built(t,
		one(1, 0, "web", 0, 10),
		with(one(2, 1, "db", 2, 6), func(s *api.Span) {
			s.Status, s.Attrs = api.Failed, []api.Attr{{Key: "rows", Value: number(7)}}
		}),
		one(3, 1, "db", 4, 9), one(4, 2, "disk", 5, 6), one(9, 8, "db", 20, 21))
}

func number(n int64) api.Value { return api.Value{Kind: api.Int, Int: n} }
func text(s string) api.Value  { return api.Value{Text: s} }
func truth(n int64) api.Value  { return api.Value{Kind: api.Bool, Int: n} }

func is(field string, op api.Op, v api.Value) api.Expr {
	return api.Expr{Op: op, Field: field, Value: v}
}

func all() api.Expr                { return api.Expr{Op: api.OpSpans} }
func spans(c api.Expr) api.Expr    { return api.Expr{Op: api.OpSpans, Args: []api.Expr{c}} }
func neg(c api.Expr) api.Expr      { return api.Expr{Op: api.OpNot, Args: []api.Expr{c}} }
func of(e api.Expr) api.Query      { return api.Query{Set: e} }
func ids(l ...uint64) []api.SpanID { return spanIDs(l) }

func two(op api.Op, a, b api.Expr) api.Expr { return api.Expr{Op: op, Args: []api.Expr{a, b}} }

func spanIDs(l []uint64) []api.SpanID {
	var out []api.SpanID
	for _, n := range l {
		out = append(out, api.SpanID(n))
	}
	return out
}

func read(t *testing.T, s string) api.Query {
	t.Helper()
	q, err := lang.Parse(s)
	if err != nil {
		t.Fatal(s, err)
	}
	return q
}

// finds: does the query find just these? Without stages its set has them, too, and of a single condition Holds says so of each span.
func finds(t *testing.T, f *forest.Forest, s string, want ...uint64) {
	t.Helper()
	q := read(t, s)
	finding(t, f, q, s, spanIDs(want))
}

func finding(t *testing.T, f *forest.Forest, q api.Query, what string, want []api.SpanID) {
	t.Helper()
	if l, e := match.Find(q, f); e != api.OK || !slices.Equal(l, want) {
		t.Errorf("%s: %v, %v, not %v", what, l, e, want)
	}
	if len(q.Stages) > 0 {
		return
	}
	if l, e := match.Set(q.Set, f); e != api.OK || !slices.Equal(l, want) {
		t.Errorf("%s: Set: %v, %v, not %v", what, l, e, want)
	}
	if q.Set.Op != api.OpSpans || len(q.Set.Args) == 0 {
		return
	}
	for i, id := range f.IDs() {
		if f.Count() > 100 && i%50 != 1 { // of many some will do: each asks own anew
			continue
		}
		if is, e := match.Holds(q.Set.Args[0], f, id); e != api.OK || is != slices.Contains(want, id) {
			t.Errorf("%s: Holds of %d: %v, %v", what, id, is, e)
		}
	}
}

// The chapter's examples, by their numbers.
func TestExample1(t *testing.T) {
	f := example(t)
	finds(t, f, `{service = "db"}`, 2, 3, 9)
	finds(t, f, `{service = "web"} > {service = "db"}`, 2, 3)
	finds(t, f, `{service = "web"} >> {}`, 2, 3, 4)
	finds(t, f, `{} ~ {}`, 2, 3)
	finds(t, f, `{status = failed} ~ {}`, 3)
}

func TestExample2(t *testing.T) {
	f := example(t)
	finds(t, f, `{.rows >= 7}`, 2)
	finds(t, f, `{.rows != 8}`, 2)
	finds(t, f, `{not .rows = 7}`, 1, 3, 4, 9)
	finds(t, f, `{.rows = "7"}`)
}

func TestExample3(t *testing.T) {
	f := example(t)
	finds(t, f, `{dur > 4}`, 1, 3)
	finds(t, f, `{self = 0}`, 4)
	finds(t, f, `{leaf = true}`, 3, 4, 9)
	finds(t, f, `{orphan = true}`, 9)
	finds(t, f, `{root = true}`, 1, 9)
	finds(t, f, `{depth = 2}`, 4)
	for s, id := range map[string]uint64{`{self = 3}`: 1, `{self = 2}`: 2, `{self = 5}`: 3, `{self = 0}`: 4, `{self = 1}`: 9} {
		finds(t, f, s, id)
	}
}

func TestExample4(t *testing.T) {
	f := example(t)
	finds(t, f, `{status = failed} && {service = "disk"}`, 2, 4)
	finds(t, f, `{status = failed} && {service = "none"}`)
}

func TestExample5(t *testing.T) {
	f := example(t)
	finds(t, f, `{service = "db"} | count > 2 | top 2 by dur`, 2, 3)
	finds(t, f, `{} | sum dur = 21`, 1, 2, 3, 4, 9)
	finds(t, f, `{} | max self < 5`)
}

func TestExample6(t *testing.T) {
	f := example(t)
	failed := is("status", api.OpEq, number(2))
	if is, e := match.Holds(failed, f, 2); !is || e != api.OK {
		t.Error(is, e)
	}
	if is, e := match.Holds(failed, f, 7); is || e != api.ErrForestNone {
		t.Error(is, e)
	}
	if n, e := match.Steps(read(t, `{} > {} || {}`), f); n != 15 || e != api.OK {
		t.Error(n, e)
	}
}

// errs: do all calls answer this error of a query, and nothing beside?
func errs(t *testing.T, q api.Query, f *forest.Forest, want api.Errno) {
	t.Helper()
	if l, e := match.Find(q, f); len(l) != 0 || e != want {
		t.Errorf("Find of %+v: %v, %v, not %v", q, l, e, want)
	}
	if n, e := match.Steps(q, f); n != 0 || e != want {
		t.Errorf("Steps of %+v: %v, %v, not %v", q, n, e, want)
	}
	if len(q.Stages) > 0 {
		return
	}
	if l, e := match.Set(q.Set, f); len(l) != 0 || e != want {
		t.Errorf("Set of %+v: %v, %v, not %v", q, l, e, want)
	}
}

func errsHolds(t *testing.T, c api.Expr, f *forest.Forest, id api.SpanID, want api.Errno) {
	t.Helper()
	if is, e := match.Holds(c, f, id); is || e != want {
		t.Errorf("Holds of %+v and %d: %v, %v, not %v", c, id, is, e, want)
	}
}

// nots has n OpNots, one of the other, of a comparison.
func nots(n int) api.Expr {
	c := is("leaf", api.OpEq, truth(1))
	for range n {
		c = neg(c)
	}
	return c
}

// Each error; where several apply, the one that the function names first.
func TestErrors(t *testing.T) {
	f, none := example(t), built(t)
	good, leaf := all(), is("leaf", api.OpEq, truth(1))
	top := api.Stage{Name: "top", Field: "dur", Int: 1}
	bad := []api.Query{
		{}, of(leaf), of(api.Expr{Op: api.OpSpans, Field: "x"}), of(api.Expr{Op: 17}), of(api.Expr{Op: -1}),
		of(spans(api.Expr{})), of(spans(all())), of(spans(is("leaf", api.OpLt, truth(1)))), of(spans(is("dur", api.OpLike, text("x")))), of(spans(is("x", api.OpEq, number(1)))), of(spans(is(".", api.OpEq, number(1)))), of(spans(is(".K", api.OpEq, number(1)))), of(spans(is("", api.OpEq, number(1)))),
		of(api.Expr{Op: api.OpBoth}), of(api.Expr{Op: api.OpChild, Args: []api.Expr{good}}), of(two(api.OpAnd, good, good)), of(two(api.OpBelow, good, leaf)), of(two(api.OpBeside, api.Expr{}, good)),
		of(api.Expr{Op: api.OpSpans, Args: []api.Expr{leaf, leaf}}), of(spans(api.Expr{Op: api.OpNot})), of(spans(nots(50))), of(spans(is("kind", api.OpEq, number(5)))), of(spans(is("op", api.OpEq, text(strings.Repeat("x", 201))))),
		{Set: good, Stages: []api.Stage{{}}}, {Set: good, Stages: []api.Stage{{Name: "top", Field: "dur"}}}, {Set: good, Stages: []api.Stage{top, {Name: "max", Field: "start", Op: api.OpEq}}}, {Set: good, Stages: []api.Stage{{Name: "count", Op: api.OpLike}, top}}, {Set: leaf, Stages: []api.Stage{top}},
	}
	for _, q := range bad {
		errs(t, q, f, api.ErrLangTree)
		errs(t, q, none, api.ErrLangTree)
		errs(t, q, nil, api.ErrArg)
	}
	errs(t, of(good), nil, api.ErrArg)
	errs(t, api.Query{Set: good, Stages: []api.Stage{top}}, nil, api.ErrArg)
	for _, c := range []api.Expr{{}, all(), two(api.OpBoth, all(), all()), {Op: api.OpAnd}, two(api.OpAnd, leaf, all()), is("leaf", api.OpEq, number(1)), is("leaf", api.OpLike, truth(1)), nots(50)} {
		for _, id := range ids(0, 1, 2, 7, 8, math.MaxUint64) {
			errsHolds(t, c, f, id, api.ErrLangTree)
			errsHolds(t, c, none, id, api.ErrLangTree)
			errsHolds(t, c, nil, id, api.ErrArg)
		}
	}
	for _, id := range ids(0, 5, 7, 8, 10, math.MaxUint64) { // 8 is named, but not there; 0 is named by a root
		errsHolds(t, leaf, f, id, api.ErrForestNone)
		errsHolds(t, leaf, none, id, api.ErrForestNone)
		errsHolds(t, neg(leaf), f, id, api.ErrForestNone)
		errsHolds(t, leaf, nil, id, api.ErrArg)
	}
	if is, e := match.Holds(nots(49), f, 1); !is || e != api.OK { // the set's `{` and 49 `not` are as many as may be
		t.Error(is, e)
	}
	finding(t, f, of(spans(nots(49))), "49 nots", ids(1, 2))
}

// A trace without spans: nothing is found in it, whatever is asked.
func TestNoSpans(t *testing.T) {
	f := built(t)
	for _, s := range []string{`{}`, `{dur >= 0}`, `{not dur >= 0}`, `{self = 0}`, `{} && {}`, `{} || {}`, `{} > {}`, `{} >> {}`, `{} ~ {}`, `{} | count = 0`, `{} | count >= 0`, `{} | max dur >= 0`, `{} | min dur >= 0`, `{} | sum dur = 0`, `{} | top 5 by self`, `{} | top 5 by dur | count = 0`} {
		finds(t, f, s)
		if n, e := match.Steps(read(t, s), f); n != 0 || e != api.OK {
			t.Error(s, n, e)
		}
	}
}

// Steps: what stands within conditions, and stages, do not count.
func TestSteps(t *testing.T) {
	f := example(t)
	for s, want := range map[string]int{
		`{}`: 5, `{dur > 5}`: 5, `{dur > 5 and not (leaf = true or self = 0)}`: 5, `{} | count > 3 | top 2 by dur`: 5, `{service = "none"}`: 5,
		`{} && {}`: 10, `{} || {}`: 10, `{} > {}`: 10, `{} >> {}`: 10, `{} ~ {}`: 10, `{} > ({} ~ {}) && {dur = 1 or dur = 2} || ({} || {})`: 30,
	} {
		if n, e := match.Steps(read(t, s), f); n != want || e != api.OK {
			t.Error(s, n, e)
		}
	}
	if n, e := match.Steps(of(all()), built(t, one(5, 0, "a", 1, 2))); n != 1 || e != api.OK {
		t.Error(n, e)
	}
}
