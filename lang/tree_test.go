package lang_test

import (
	"math"
	"slices"
	"strings"
	"testing"

	"spoor/api"
	"spoor/lang"
)

// Signs of the comparisons' operators, OpEq first.
func signs() []string { return []string{"=", "!=", "<", "<=", ">", ">=", "=~"} }

func fields() []string {
	return []string{"service", "op", "kind", "status", "dur", "self", "total", "start", "depth", "events", "links", "root", "born", "orphan", "looped", "leaf", ".k", ".k.l-1_"}
}

// operand is a value as it stands in a text, what it stands for, and what it is.
type operand struct {
	token string
	value api.Value
	kind  string
}

func operands() []operand {
	l := []operand{{`"x"`, text("x"), "text"}, {`""`, text(""), "text"}, {`"true"`, text("true"), "text"}, {"5", number(5), "number"}, {"-1", number(-1), "number"}, {"0", number(0), "number"}, {"1", number(1), "number"}, {"5ms", number(5000000), "duration"}, {"0h", number(0), "duration"}}
	for i, w := range []string{"internal", "server", "client", "producer", "consumer"} {
		l = append(l, operand{w, number(int64(i)), "kind"})
	}
	for i, w := range []string{"unset", "fine", "failed"} {
		l = append(l, operand{w, number(int64(i)), "status"})
	}
	for i, w := range []string{"false", "true"} {
		l = append(l, operand{w, truth(int64(i)), "truth"})
	}
	return append(l, operand{"other", api.Value{}, "none"}, operand{"kind", api.Value{}, "none"}, operand{"not", api.Value{}, "none"})
}

// operatorsOf: of a field and what a value is, how many of the operators are taken, from OpEq on; 0: the value is not.
func operatorsOf(field, kind string) int {
	switch field {
	case "service", "op":
		return map[string]int{"text": 7}[kind]
	case "kind":
		return map[string]int{"kind": 2}[kind]
	case "status":
		return map[string]int{"status": 2}[kind]
	case "dur", "self", "total", "start":
		return map[string]int{"number": 6, "duration": 6}[kind]
	case "depth", "events", "links":
		return map[string]int{"number": 6}[kind]
	case "root", "born", "orphan", "looped", "leaf":
		return map[string]int{"truth": 2}[kind]
	}
	if strings.HasPrefix(field, ".") {
		return map[string]int{"text": 7, "number": 6, "duration": 6, "truth": 2}[kind]
	}
	return 0
}

// anyOperators: how many a field takes with one value or another.
func anyOperators(field string) int {
	most := 0
	for _, kind := range []string{"text", "number", "kind", "status", "truth"} {
		most = max(most, operatorsOf(field, kind))
	}
	return most
}

// Each field with each operator and each kind of value, as text and as tree.
func TestComparisons(t *testing.T) {
	for _, f := range fields() {
		for i, sign := range signs() {
			for _, x := range operands() {
				s, op := "{"+f+" "+sign+" "+x.token+"}", api.OpEq+api.Op(i)
				tree := of(spans(is(f, op, x.value)))
				switch {
				case i >= anyOperators(f):
					faulty(t, s, len(f)+2, api.ErrLangWord)
				case i >= operatorsOf(f, x.kind):
					faulty(t, s, len(f)+len(sign)+3, api.ErrLangValue)
				default:
					reads(t, s, tree)
				}
			}
			for _, v := range values() {
				tree := of(spans(is(f, api.OpEq+api.Op(i), v)))
				if !treeMayBe(f, i, v) {
					noTree(t, tree)
				} else if lang.Check(tree) != api.OK {
					t.Errorf("Check of %+v is not OK", tree)
				} else if s, e := lang.Print(tree); e != api.OK {
					t.Errorf("Print of %+v is %v", tree, e)
				} else {
					reads(t, s, tree)
				}
			}
		}
	}
}

// values that may be of some field, and such as may be of none.
func values() []api.Value {
	l := []api.Value{text(""), text("x"), text(strings.Repeat("é", 100)), text(strings.Repeat("a", 201)), text("\xff"), text("a\xc3"), {Kind: api.Text, Text: "x", Int: 1}, {Kind: api.Text, Int: 1}}
	for _, n := range []int64{math.MinInt64, -2, -1, 0, 1, 2, 3, 4, 5, 6, 1 << 32, math.MaxInt64} {
		l = append(l, number(n), truth(n))
	}
	for _, k := range []api.ValueKind{api.Int, api.Bool} {
		l = append(l, api.Value{Kind: k, Text: "x"}, api.Value{Kind: k, Text: "1", Int: 1})
	}
	for _, k := range []api.ValueKind{-1, 3, 4, math.MaxInt, math.MinInt} {
		l = append(l, api.Value{Kind: k}, api.Value{Kind: k, Int: 1}, api.Value{Kind: k, Text: "x"})
	}
	return l
}

// treeMayBe: the chapter's table of fields, of which op is an operator's number from OpEq on.
func treeMayBe(field string, op int, v api.Value) bool {
	asText := v.Kind == api.Text && v.Int == 0 && (v.Text == "" || v.Text == "x" || v.Text == strings.Repeat("é", 100))
	asNumber := v.Kind == api.Int && v.Text == ""
	asTruth := v.Kind == api.Bool && v.Text == "" && (v.Int == 0 || v.Int == 1)
	kinds := map[string]bool{"text": asText, "number": asNumber, "truth": asTruth, "kind": asNumber && v.Int >= 0 && v.Int <= 4, "status": asNumber && v.Int >= 0 && v.Int <= 2}
	for kind, is := range kinds {
		if is && op < operatorsOf(field, kind) {
			return true
		}
	}
	return false
}

// Each node has just what its line of the table has.
func TestNodes(t *testing.T) {
	sets := []api.Op{api.OpBoth, api.OpEither, api.OpChild, api.OpBelow, api.OpBeside}
	conds := []api.Op{api.OpAnd, api.OpOr}
	noTree(t, api.Query{})
	noTree(t, of(leaf()))
	noTree(t, of(spans(all())))
	noTree(t, of(spans(two(api.OpBoth, all(), all()))))
	noTree(t, of(spans(api.Expr{})))
	noTree(t, of(not(all())))
	noTree(t, of(not(leaf())))
	noTree(t, of(spans(not(all()))))
	for _, n := range []int{0, 2, 3} {
		noTree(t, of(spans(api.Expr{Op: api.OpNot, Args: slices.Repeat([]api.Expr{leaf()}, n)})))
	}
	for _, n := range []int{2, 3} {
		noTree(t, of(api.Expr{Op: api.OpSpans, Args: slices.Repeat([]api.Expr{leaf()}, n)}))
	}
	for _, op := range sets {
		for _, n := range []int{0, 1, 3} {
			noTree(t, of(api.Expr{Op: op, Args: slices.Repeat([]api.Expr{all()}, n)}))
		}
		noTree(t, of(two(op, all(), leaf())))
		noTree(t, of(two(op, leaf(), all())))
		noTree(t, of(two(op, all(), api.Expr{})))
		noTree(t, of(spans(two(op, leaf(), leaf()))))
	}
	for _, op := range conds {
		for _, n := range []int{0, 1, 3} {
			noTree(t, of(spans(api.Expr{Op: op, Args: slices.Repeat([]api.Expr{leaf()}, n)})))
		}
		noTree(t, of(spans(two(op, leaf(), all()))))
		noTree(t, of(spans(two(op, all(), leaf()))))
		noTree(t, of(spans(two(op, leaf(), api.Expr{}))))
		noTree(t, of(two(op, all(), all())))
		noTree(t, of(two(op, leaf(), leaf())))
	}
	for _, n := range []int{1, 2} {
		e := leaf()
		e.Args = slices.Repeat([]api.Expr{leaf()}, n)
		noTree(t, of(spans(e)))
	}
	for _, op := range []api.Op{0, -1, 17, 18, math.MaxInt, math.MinInt} {
		noTree(t, of(api.Expr{Op: op}))
		noTree(t, of(two(op, all(), all())))
		noTree(t, of(spans(two(op, leaf(), leaf()))))
		noTree(t, of(spans(is("op", op, text("x")))))
		noTree(t, of(spans(is("leaf", op, truth(1)))))
	}
	empty := api.Expr{Op: api.OpSpans, Args: []api.Expr{}}
	prints(t, of(empty), "{}")
}

// What has nothing to compare has no field and no value: wherever it stands.
func TestNothingToCompare(t *testing.T) {
	trees := []func(api.Expr) api.Query{
		func(e api.Expr) api.Query { return of(api.Expr{Op: api.OpSpans, Field: e.Field, Value: e.Value}) },
		func(e api.Expr) api.Query {
			return of(api.Expr{Op: api.OpSpans, Field: e.Field, Value: e.Value, Args: []api.Expr{leaf()}})
		},
		func(e api.Expr) api.Query {
			return of(spans(api.Expr{Op: api.OpNot, Field: e.Field, Value: e.Value, Args: []api.Expr{leaf()}}))
		},
	}
	for op := api.OpBoth; op <= api.OpOr; op++ {
		trees = append(trees, func(e api.Expr) api.Query {
			e.Op = op
			if op < api.OpAnd {
				e.Args = []api.Expr{all(), all()}
				return of(e)
			}
			e.Args = []api.Expr{leaf(), leaf()}
			return of(spans(e))
		})
	}
	for _, with := range trees {
		if e := lang.Check(with(api.Expr{})); e != api.OK {
			t.Fatalf("Check of %+v is %v", with(api.Expr{}), e)
		}
		for _, e := range []api.Expr{{Field: "x"}, {Field: "dur"}, {Field: " "}, {Value: text("x")}, {Value: number(0)}, {Value: truth(0)}, {Value: api.Value{Int: 1}}} {
			q := with(e)
			noTree(t, q)
			q = of(two(api.OpEither, all(), two(api.OpChild, q.Set, all())))
			noTree(t, q)
		}
	}
}

// Each stage with each field, operator and number.
func TestStages(t *testing.T) {
	ints := []int64{math.MinInt64, -1, 0, 1, 5, 1000, 1001, math.MaxInt64}
	names := append(fields(), "", "x", "by")
	for _, name := range []string{"count", "max", "min", "sum", "top", "", "avg", "Count", "count ", "tops", "dur"} {
		for _, f := range names {
			for op := api.Op(-1); op <= 18; op++ {
				for _, n := range ints {
					s := api.Stage{Name: name, Field: f, Op: op, Int: n}
					q := of(all(), s)
					if !stageMayBe(s) {
						noTree(t, q)
						continue
					}
					f, e := lang.Print(q)
					if lang.Check(q) != api.OK || e != api.OK || !strings.HasPrefix(f, "{} | "+name+" ") {
						t.Fatalf("%+v: %q, %v", s, f, e)
					}
					reads(t, f, q)
				}
			}
		}
	}
	good, bad := api.Stage{Name: "count", Op: api.OpEq}, api.Stage{Name: "count"}
	prints(t, of(all(), good, good), "{} | count = 0 | count = 0")
	noTree(t, of(all(), good, bad))
	noTree(t, of(all(), bad, good))
	noTree(t, of(leaf(), good))
}

func stageMayBe(s api.Stage) bool {
	six := s.Op >= api.OpEq && s.Op <= api.OpGe
	time := slices.Contains([]string{"dur", "self", "total"}, s.Field)
	switch s.Name {
	case "count":
		return s.Field == "" && six
	case "max", "min", "sum":
		return time && six
	case "top":
		return (time || s.Field == "start") && s.Op == 0 && s.Int >= 1 && s.Int <= 1000
	}
	return false
}

// Stages as text: each operator, each field, the ends of what top takes.
func TestStagesAsText(t *testing.T) {
	for i, sign := range signs() {
		op := api.OpEq + api.Op(i)
		if op == api.OpLike {
			continue
		}
		prints(t, of(all(), api.Stage{Name: "count", Op: op, Int: -3}), "{} | count "+sign+" -3")
		for _, name := range []string{"max", "min", "sum"} {
			for _, f := range []string{"dur", "self", "total"} {
				prints(t, of(all(), api.Stage{Name: name, Field: f, Op: op, Int: 3000}), "{} | "+name+" "+f+" "+sign+" 3us")
				reads(t, "{}|"+name+" "+f+sign+"3000", of(all(), api.Stage{Name: name, Field: f, Op: op, Int: 3000}))
			}
		}
	}
	for _, f := range []string{"dur", "self", "total", "start"} {
		for n, s := range map[int64]string{1: "1", 60: "60", 1000: "1000"} {
			prints(t, of(all(), api.Stage{Name: "top", Field: f, Int: n}), "{} | top "+s+" by "+f)
		}
	}
}

// Print's bound is that of the form, to the byte; what may not be is told ahead of that.
func TestLongForms(t *testing.T) {
	q := of(all())
	for range 399 {
		q.Set = two(api.OpBelow, q.Set, all()) // six bytes each
	}
	form := "{}" + strings.Repeat(" >> {}", 399) // 2396 bytes
	for len(form) > 1900 {
		q.Set, form = q.Set.Args[0], form[:len(form)-6]
	}
	for more := range 201 {
		pad := strings.Repeat("x", more)
		with := of(two(api.OpEither, q.Set, spans(is("op", api.OpEq, text(pad)))))
		want := form + ` || {op = "` + pad + `"}`
		if len(want) <= 2000 {
			prints(t, with, want)
			continue
		}
		if s, e := lang.Print(with); s != "" || e != api.ErrLangLong {
			t.Fatalf("Print of %d bytes is %q, %v", len(want), s, e)
		}
		if e := lang.Check(with); e != api.OK {
			t.Fatal(e)
		}
		with.Stages = []api.Stage{{Name: "top"}}
		noTree(t, with)
	}
	stages := of(all())
	for len(stages.Stages) < 142 {
		stages.Stages = append(stages.Stages, api.Stage{Name: "count", Op: api.OpEq, Int: 100}) // 14 bytes each
	}
	prints(t, stages, "{}"+strings.Repeat(" | count = 100", 142)) // 1990
	stages.Stages[0].Int = 1000000000000                          // 2000
	if s, e := lang.Print(stages); len(s) != 2000 || e != api.OK {
		t.Fatal(len(s), e)
	}
	stages.Stages[141].Int = 1000
	if s, e := lang.Print(stages); s != "" || e != api.ErrLangLong {
		t.Fatal(len(s), e)
	}
}
