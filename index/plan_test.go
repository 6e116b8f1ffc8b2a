package index_test

import (
	"slices"
	"strconv"
	"strings"
	"testing"

	"spoor/api"
	"spoor/index"
	"spoor/lang"
)

func read(t *testing.T, s string) api.Query {
	t.Helper()
	q, err := lang.Parse(s)
	if err != nil {
		t.Fatal(s, err)
	}
	return q
}

func is(field string, op api.Op, v api.Value) api.Expr {
	return api.Expr{Op: op, Field: field, Value: v}
}

func all() api.Expr             { return api.Expr{Op: api.OpSpans} }
func spans(c api.Expr) api.Expr { return api.Expr{Op: api.OpSpans, Args: []api.Expr{c}} }
func neg(c api.Expr) api.Expr   { return api.Expr{Op: api.OpNot, Args: []api.Expr{c}} }
func of(e api.Expr) api.Query   { return api.Query{Set: e} }

func two(op api.Op, a, b api.Expr) api.Expr { return api.Expr{Op: op, Args: []api.Expr{a, b}} }

func planned(t *testing.T, q api.Query) []api.Term {
	t.Helper()
	l, e := index.Plan(q)
	if e != api.OK {
		t.Fatalf("%+v: %v", q, e)
	}
	return l
}

func plans(t *testing.T, s string, want ...string) {
	t.Helper()
	if l := planned(t, read(t, s)); !slices.Equal(l, terms(want...)) {
		t.Errorf("%s: %q, not %q", s, l, want)
	}
}

// X2: the chapter's examples.
func TestPlanExamples(t *testing.T) {
	plans(t, `{service = "a" and (op = "x" or op = "x")}`, "op", "x", "service", "a")
	plans(t, `{service = "a"} > {not op = "b" and kind = client}`, "kind", "client", "service", "a")
	plans(t, `{service = "a"} || {}`)
	plans(t, `{.n = 5ms}`, ".n", "5000000")
	if l, e := index.Plan(api.Query{}); len(l) != 0 || e != api.ErrLangTree {
		t.Error(l, e)
	}
}

// Values stand in plans as they do in the terms of spans.
func TestPlanValues(t *testing.T) {
	plans(t, `{service = "a"}`, "service", "a")
	plans(t, `{service = ""}`, "service", "")
	plans(t, `{op = "\"\\ x"}`, "op", `"\ x`)
	plans(t, `{op = "`+strings.Repeat("é", 100)+`"}`, "op", strings.Repeat("é", 100))
	for _, k := range []string{"internal", "server", "client", "producer", "consumer"} {
		plans(t, `{kind = `+k+`}`, "kind", k)
		plans(t, `{.kind = "`+k+`"}`, ".kind", `"`+k)
	}
	for _, s := range []string{"unset", "fine", "failed"} {
		plans(t, `{status = `+s+`}`, "status", s)
	}
	plans(t, `{.k = ""}`, ".k", `"`)
	plans(t, `{.k = "5"}`, ".k", `"5`)
	plans(t, `{.k = "true"}`, ".k", `"true`)
	plans(t, `{.k = "\"\\"}`, ".k", `""\`)
	plans(t, `{.k = 5}`, ".k", "5")
	plans(t, `{.k = 0}`, ".k", "0")
	plans(t, `{.k = -0}`, ".k", "0")
	plans(t, `{.k = -1us}`, ".k", "-1000")
	plans(t, `{.k = 9223372036854775807}`, ".k", "9223372036854775807")
	plans(t, `{.k = -9223372036854775808}`, ".k", "-9223372036854775808")
	plans(t, `{.k = true}`, ".k", "true")
	plans(t, `{.k = false}`, ".k", "false")
	plans(t, `{.service = "a"}`, ".service", `"a`)
	plans(t, `{.a.b_c-1 = 7}`, ".a.b_c-1", "7")
	plans(t, `{.dur = 7}`, ".dur", "7")
}

// What else can be compared needs nothing.
func TestPlanNeedsNothing(t *testing.T) {
	plans(t, `{}`)
	for _, c := range []string{
		`dur = 5`, `self = 5`, `total = 5`, `start = 5`, `depth = 5`, `events = 5`, `links = 5`,
		`root = true`, `born = true`, `orphan = false`, `looped = true`, `leaf = false`,
		`kind != client`, `status != failed`, `not service = "a"`, `not not service = "a"`, `not (service = "a" and op = "b")`, `not service != "a"`,
	} {
		plans(t, `{`+c+`}`)
		plans(t, `{`+c+` and service = "a"}`, "service", "a")
		plans(t, `{`+c+` or service = "a"}`)
	}
	for _, op := range []string{"!=", "<", "<=", ">", ">=", "=~"} {
		for _, field := range []string{"service", "op", ".k"} {
			plans(t, `{`+field+` `+op+` "a"}`)
		}
		if op != "=~" {
			plans(t, `{.k `+op+` 5}`)
		}
	}
	plans(t, `{.k != true}`)
}

// Conditions of conditions.
func TestPlanConditions(t *testing.T) {
	plans(t, `{service = "a" and op = "b" and kind = client and status = fine and .k = 1}`, ".k", "1", "kind", "client", "op", "b", "service", "a", "status", "fine")
	plans(t, `{service = "a" and service = "b"}`, "service", "a", "service", "b")
	plans(t, `{service = "b" and service = "a"}`, "service", "a", "service", "b")
	plans(t, `{service = "a" and service = "a"}`, "service", "a")
	plans(t, `{.k = "1" and .k = 1 and .k = true}`, ".k", `"1`, ".k", "1", ".k", "true")
	plans(t, `{service = "a" or service = "b"}`)
	plans(t, `{service = "a" or op = "a"}`)
	plans(t, `{service = "a" or service = "a"}`, "service", "a")
	plans(t, `{.k = "1" or .k = 1}`)
	plans(t, `{service = "a" and op = "b" or op = "b" and kind = client}`, "op", "b")
	plans(t, `{op = "b" or op = "b" and kind = client}`, "op", "b")
	plans(t, `{op = "b" and kind = client or op = "b"}`, "op", "b")
	plans(t, `{(op = "b" or kind = client) and (op = "b" or service = "a")}`)
	plans(t, `{(op = "b" or op = "b" and kind = client) and (service = "a" and .k = 1 or service = "a")}`, "op", "b", "service", "a")
	plans(t, `{op = "b" and (not service = "a" or service = "a")}`, "op", "b")
}

// Terms rise by their bytes, by the field first.
func TestPlanOrder(t *testing.T) {
	plans(t, `{service = "é" and service = "z" and service = "Z" and service = "" and service = "zz" and op = "zzz" and .z = 10 and .z = 9 and .z = -9 and .z = "" and .z- = 0 and .a = true}`,
		".a", "true", ".z", `"`, ".z", "-9", ".z", "10", ".z", "9", ".z-", "0", "op", "zzz", "service", "", "service", "Z", "service", "z", "service", "zz", "service", "é")
}

// Sets of sets.
func TestPlanSets(t *testing.T) {
	for _, sign := range []string{"&&", ">", ">>", "~"} {
		plans(t, `{service = "a"} `+sign+` {op = "b"}`, "op", "b", "service", "a")
		plans(t, `{op = "b"} `+sign+` {op = "b" and kind = client}`, "kind", "client", "op", "b")
		plans(t, `{} `+sign+` {op = "b"}`, "op", "b")
		plans(t, `{op = "b"} `+sign+` {}`, "op", "b")
		plans(t, `{} `+sign+` {}`)
		plans(t, `({op = "b"} || {}) `+sign+` {service = "a"}`, "service", "a")
		plans(t, `({op = "b"} `+sign+` {kind = client}) || {kind = client}`, "kind", "client")
	}
	plans(t, `{service = "a"} || {service = "a"}`, "service", "a")
	plans(t, `{service = "a"} || {service = "b"}`)
	plans(t, `{} || {service = "a"}`)
	plans(t, `{service = "a"} > {op = "b"} ~ {kind = client} >> {status = failed} && {.k = 1}`, ".k", "1", "kind", "client", "op", "b", "service", "a", "status", "failed")
}

// P18.4: stages change no plan.
func TestPlanStages(t *testing.T) {
	for _, s := range []string{`count > 3`, `count = 0`, `max dur < 5ms`, `min self != 0h`, `sum total >= 1s`, `top 1 by start`, `count > 1 | top 5 by dur | count = 1`} {
		plans(t, `{service = "a"} > {op = "b"} | `+s, "op", "b", "service", "a")
		plans(t, `{} | `+s)
	}
}

// refusedQueries has queries that lang's Check refuses.
func refusedQueries() []api.Query {
	deep := is("service", api.OpEq, text("a"))
	for range api.MaxDeep {
		deep = neg(deep)
	}
	good := spans(is("service", api.OpEq, text("a")))
	return []api.Query{
		{},
		of(is("service", api.OpEq, text("a"))),
		of(two(api.OpAnd, good, good)),
		of(two(api.OpBoth, good, is("service", api.OpEq, text("a")))),
		of(api.Expr{Op: api.OpBoth, Args: []api.Expr{good}}),
		of(api.Expr{Op: api.OpEither}),
		of(api.Expr{Op: api.OpSpans, Args: []api.Expr{deep.Args[0], deep.Args[0]}}),
		of(api.Expr{Op: api.OpSpans, Field: "service"}),
		of(api.Expr{Op: 99}), of(api.Expr{Op: -1}),
		of(spans(all())),
		of(spans(deep)),
		of(spans(api.Expr{Op: api.OpNot})),
		of(spans(api.Expr{Op: api.OpAnd, Args: []api.Expr{is("op", api.OpEq, text("a"))}})),
		of(spans(is("kind", api.OpEq, number(5)))), of(spans(is("kind", api.OpEq, number(-1)))),
		of(spans(is("kind", api.OpEq, text("client")))), of(spans(is("kind", api.OpLt, number(1)))),
		of(spans(is("status", api.OpEq, number(3)))), of(spans(is("status", api.OpEq, number(-1)))),
		of(spans(is("service", api.OpEq, number(1)))), of(spans(is("service", api.OpEq, text("\xff")))),
		of(spans(is("service", api.OpEq, text(strings.Repeat("a", api.MaxText+1))))),
		of(spans(is("", api.OpEq, text("a")))), of(spans(is("nothing", api.OpEq, text("a")))),
		of(spans(is(".", api.OpEq, text("a")))), of(spans(is(".A", api.OpEq, text("a")))), of(spans(is(".k", api.OpEq, truth(2)))),
		of(spans(is(".k", api.OpEq, api.Value{Kind: 3}))), of(spans(is(".k", api.OpEq, api.Value{Text: "a", Int: 1}))),
		{Set: good, Stages: []api.Stage{{}}},
		{Set: good, Stages: []api.Stage{{Name: "top", Field: "dur", Int: 0}}},
	}
}

// X2 and X6: what lang's Check refuses, they do.
func TestRefusedQueries(t *testing.T) {
	x := index.New()
	set(t, x, lo(1), example(lo(1)))
	for _, q := range refusedQueries() {
		if lang.Check(q) != api.ErrLangTree {
			t.Fatalf("%+v may be", q)
		}
		if l, e := index.Plan(q); len(l) != 0 || e != api.ErrLangTree {
			t.Errorf("%+v: %v %v", q, l, e)
		}
		if l, e := x.Candidates(q); len(l) != 0 || e != api.ErrLangTree {
			t.Errorf("%+v: %v %v", q, l, e)
		}
	}
}

// chain is a row of n parts under one sign, from the left.
func chain(op api.Op, n int, part func(i int) api.Expr) api.Expr {
	e := part(0)
	for i := 1; i < n; i++ {
		e = two(op, e, part(i))
	}
	return e
}

// P1: trees far longer than any text, of tens of thousands of parts within one another, are gone through in good time.
func TestPlanOfLongTrees(t *testing.T) {
	const n = 1 << 15
	service := func(i int) api.Expr { return is("service", api.OpEq, text(strconv.Itoa(i))) }
	ands := spans(chain(api.OpAnd, n, service))
	if l := planned(t, of(ands)); len(l) != n || l[0] != term("service", "0") || l[1] != term("service", "1") || l[2] != term("service", "10") {
		t.Error(len(l))
	}
	if l := planned(t, of(spans(chain(api.OpOr, n, service)))); len(l) != 0 {
		t.Error(len(l))
	}
	if l := planned(t, of(spans(chain(api.OpOr, n, func(int) api.Expr { return service(7) })))); !slices.Equal(l, terms("service", "7")) {
		t.Error(l)
	}
	for _, op := range []api.Op{api.OpBoth, api.OpChild, api.OpBelow, api.OpBeside} {
		if l := planned(t, of(chain(op, n, func(i int) api.Expr { return spans(service(i)) }))); len(l) != n {
			t.Error(op, len(l))
		}
	}
	// A great plan stands first, then many that have little in common with it.
	e := two(api.OpEither, ands, ands)
	for range n {
		e = two(api.OpEither, e, spans(service(5)))
	}
	if l := planned(t, of(e)); !slices.Equal(l, terms("service", "5")) {
		t.Error(l)
	}
	e = ands
	for range 100 {
		e = two(api.OpBoth, e, two(api.OpEither, spans(service(5)), spans(service(5))))
	}
	if l := planned(t, of(e)); len(l) != n {
		t.Error(len(l))
	}
}
