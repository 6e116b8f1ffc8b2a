package lang_test

import (
	"errors"
	"slices"
	"strings"
	"testing"

	"spoor/api"
	"spoor/lang"
)

// Makers of trees.

func all() api.Expr { return api.Expr{Op: api.OpSpans} }

func spans(cond api.Expr) api.Expr { return api.Expr{Op: api.OpSpans, Args: []api.Expr{cond}} }

func two(op api.Op, a, b api.Expr) api.Expr { return api.Expr{Op: op, Args: []api.Expr{a, b}} }

func not(c api.Expr) api.Expr { return api.Expr{Op: api.OpNot, Args: []api.Expr{c}} }

func is(field string, op api.Op, v api.Value) api.Expr {
	return api.Expr{Op: op, Field: field, Value: v}
}

func text(s string) api.Value { return api.Value{Kind: api.Text, Text: s} }

func number(n int64) api.Value { return api.Value{Kind: api.Int, Int: n} }

func truth(n int64) api.Value { return api.Value{Kind: api.Bool, Int: n} }

func of(set api.Expr, stages ...api.Stage) api.Query { return api.Query{Set: set, Stages: stages} }

func leaf() api.Expr { return is("leaf", api.OpEq, truth(1)) }

// sameTree and same: nil and empty lists are the same.
func sameTree(a, b api.Expr) bool {
	return a.Op == b.Op && a.Field == b.Field && a.Value == b.Value && slices.EqualFunc(a.Args, b.Args, sameTree)
}

func same(a, b api.Query) bool {
	return sameTree(a.Set, b.Set) && slices.Equal(a.Stages, b.Stages)
}

// reads: is a text read as this query, which may be?
func reads(t *testing.T, s string, want api.Query) {
	t.Helper()
	q, err := lang.Parse(s)
	if err != nil || !same(q, want) {
		t.Fatalf("Parse of %q is %+v, %v, not %+v", s, q, err, want)
	}
	if e := lang.Check(q); e != api.OK {
		t.Fatalf("Check of what Parse tells of %q is %v", s, e)
	}
}

// prints: is this the form of a query, which is read as that query?
func prints(t *testing.T, q api.Query, want string) {
	t.Helper()
	if e := lang.Check(q); e != api.OK {
		t.Fatalf("Check of %+v is %v", q, e)
	}
	if s, e := lang.Print(q); s != want || e != api.OK {
		t.Fatalf("Print of %+v is %q, %v, not %q", q, s, e, want)
	}
	reads(t, want, q)
}

// form: what Print writes of what Parse reads.
func form(t *testing.T, s string) string {
	t.Helper()
	q, err := lang.Parse(s)
	if err != nil {
		t.Fatalf("Parse of %q: %v", s, err)
	}
	f, e := lang.Print(q)
	if e != api.OK {
		t.Fatalf("Print of %q: %v", s, e)
	}
	return f
}

// faulty: is a text refused by this fault, and nothing beside it?
func faulty(t *testing.T, s string, at int, e api.Errno) {
	t.Helper()
	q, err := lang.Parse(s)
	var f *api.Fault
	if !errors.As(err, &f) || f.At != at || !errors.Is(err, e) || f.Err != e {
		t.Fatalf("Parse of %q is %v, not %v at %d", s, err, e, at)
	}
	if _, is := err.(*api.Fault); !is || !same(q, api.Query{}) {
		t.Fatalf("Parse of %q is %+v, %T", s, q, err)
	}
}

// noTree: do Check and Print refuse a query?
func noTree(t *testing.T, q api.Query) {
	t.Helper()
	if e := lang.Check(q); e != api.ErrLangTree {
		t.Errorf("Check of %+v is %v", q, e)
	}
	if s, e := lang.Print(q); s != "" || e != api.ErrLangTree {
		t.Errorf("Print of %+v is %q, %v", q, s, e)
	}
}

// The chapter's table, line by line.
func TestExamples(t *testing.T) {
	prints(t, of(all()), "{}")
	below := two(api.OpBelow, spans(is("service", api.OpEq, text("a"))),
		spans(two(api.OpAnd, is("dur", api.OpGt, number(5000000)), not(leaf()))))
	reads(t, `{service="a"}>>{dur>5ms and not leaf=true}`, of(below))
	prints(t, of(below), `{service = "a"} >> {dur > 5ms and not leaf = true}`)
	faulty(t, "{a}", 1, api.ErrLangWord)
	faulty(t, "({}", 3, api.ErrLangWord)
	faulty(t, "{", 1, api.ErrLangWord)
	faulty(t, "{dur =~ 5}", 5, api.ErrLangWord)
	faulty(t, `{dur = "x"}`, 7, api.ErrLangValue)
	faulty(t, "{kind = served}", 8, api.ErrLangValue)
	faulty(t, "{depth = 5ms}", 9, api.ErrLangValue)
	faulty(t, "{dur = 05}", 7, api.ErrLangToken)
	faulty(t, "{dur = 5x}", 7, api.ErrLangToken)
	faulty(t, "{} & {}", 3, api.ErrLangToken)
	faulty(t, "{dur = 9223372036854775808}", 7, api.ErrLangValue)
	prints(t, of(all(), api.Stage{Name: "count", Op: api.OpGt, Int: 2}, api.Stage{Name: "top", Field: "dur", Int: 5}), "{} | count > 2 | top 5 by dur")
	faulty(t, "{} | top 0 by dur", 9, api.ErrLangValue)
	faulty(t, "{} | top 5 dur", 11, api.ErrLangWord)
	faulty(t, "{} | max service > 1", 9, api.ErrLangWord)
	faulty(t, "{} | top 5 by depth", 14, api.ErrLangWord)
	prints(t, of(two(api.OpEither, all(), two(api.OpEither, all(), all()))), "{} || ({} || {})")
	reads(t, "{(dur > 1500000ns)}", of(spans(is("dur", api.OpGt, number(1500000)))))
	prints(t, of(spans(is("dur", api.OpGt, number(1500000)))), "{dur > 1500us}")
	if !lang.Like("a*c?", "abcé") || lang.Like(`\*`, "x") {
		t.Error("Like")
	}
}

// Each sign of sets and conditions, with the line that it is of.
func TestSigns(t *testing.T) {
	a, b, c := spans(is("op", api.OpEq, text("a"))), spans(is("op", api.OpEq, text("b"))), spans(is("op", api.OpEq, text("c")))
	signs := []struct {
		sign string
		op   api.Op
		line int
	}{{"||", api.OpEither, 1}, {"&&", api.OpBoth, 2}, {">", api.OpChild, 3}, {">>", api.OpBelow, 3}, {"~", api.OpBeside, 3}}
	for _, x := range signs {
		prints(t, of(two(x.op, a, b)), `{op = "a"} `+x.sign+` {op = "b"}`)
		for _, y := range signs {
			left, right := two(y.op, two(x.op, a, b), c), two(x.op, a, two(y.op, b, c))
			plain := `{op = "a"} ` + x.sign + ` {op = "b"} ` + y.sign + ` {op = "c"}`
			if x.line >= y.line {
				prints(t, of(left), plain)
				prints(t, of(right), `{op = "a"} `+x.sign+` ({op = "b"} `+y.sign+` {op = "c"})`)
			} else {
				prints(t, of(right), plain)
				prints(t, of(left), `({op = "a"} `+x.sign+` {op = "b"}) `+y.sign+` {op = "c"}`)
			}
		}
	}
}

func TestConditions(t *testing.T) {
	a, b, c := is("op", api.OpEq, text("a")), is("op", api.OpEq, text("b")), is("op", api.OpEq, text("c"))
	and := func(x, y api.Expr) api.Expr { return two(api.OpAnd, x, y) }
	or := func(x, y api.Expr) api.Expr { return two(api.OpOr, x, y) }
	for want, tree := range map[string]api.Expr{
		"a":                             a,
		"a and b":                       and(a, b),
		"a or b":                        or(a, b),
		"a and b and c":                 and(and(a, b), c),
		"a and (b and c)":               and(a, and(b, c)),
		"a or b or c":                   or(or(a, b), c),
		"a or (b or c)":                 or(a, or(b, c)),
		"a and b or c":                  or(and(a, b), c),
		"a or b and c":                  or(a, and(b, c)),
		"(a or b) and c":                and(or(a, b), c),
		"a and (b or c)":                and(a, or(b, c)),
		"not a":                         not(a),
		"not not a":                     not(not(a)),
		"not a and b":                   and(not(a), b),
		"a and not b or not c":          or(and(a, not(b)), not(c)),
		"not (a and b)":                 not(and(a, b)),
		"not (a or b)":                  not(or(a, b)),
		"not not (a or b) and c":        and(not(not(or(a, b))), c),
		"not (not a and b)":             not(and(not(a), b)),
		"a and b and (not c or b) or a": or(and(and(a, b), or(not(c), b)), a),
	} {
		for _, x := range []string{"a", "b", "c"} {
			want = strings.ReplaceAll(" "+want+" ", " "+x+" ", ` op = "`+x+`" `)
			want = strings.ReplaceAll(want, "("+x+" ", `(op = "`+x+`" `)
			want = strings.TrimSpace(strings.ReplaceAll(want, " "+x+")", ` op = "`+x+`")`))
		}
		prints(t, of(spans(tree)), "{"+want+"}")
	}
}

// Brackets leave nothing in the tree, however many there are.
func TestBracketsLeaveNothing(t *testing.T) {
	for s, want := range map[string]string{
		" ( ( { } ) ) ":    "{}",
		"({}||{})||{}":     "{} || {} || {}",
		"{}||({}&&{})":     "{} || {} && {}",
		"({}>{})&&{}":      "{} > {} && {}",
		"{}&&({}~{})":      "{} && {} ~ {}",
		"(({}>{})>>{})~{}": "{} > {} >> {} ~ {}",
		"{((leaf=true))}":  "{leaf = true}",
		"{(leaf=true and leaf=true)or(not(leaf=true))}": "{leaf = true and leaf = true or not leaf = true}",
		"{not(not(leaf=true))}":                         "{not not leaf = true}",
	} {
		if f := form(t, s); f != want {
			t.Errorf("the form of %q is %q, not %q", s, f, want)
		}
	}
}

// Numbers and durations, as they are read and written.
func TestNumbers(t *testing.T) {
	const most, least = "9223372036854775807", "-9223372036854775808"
	for _, x := range []struct {
		token   string
		n       int64
		asTimes string
	}{
		{"0", 0, "0h"}, {"-0", 0, "0h"}, {"0ns", 0, "0h"}, {"-0m", 0, "0h"}, {"7", 7, "7ns"}, {"-7", -7, "-7ns"}, {"10", 10, "10ns"},
		{"5ns", 5, "5ns"}, {"5us", 5000, "5us"}, {"5ms", 5000000, "5ms"}, {"5s", 5000000000, "5s"}, {"5m", 300000000000, "5m"}, {"5h", 18000000000000, "5h"},
		{"-5h", -18000000000000, "-5h"}, {"1000ns", 1000, "1us"}, {"1000us", 1000000, "1ms"}, {"1000ms", 1000000000, "1s"}, {"60s", 60000000000, "1m"}, {"60m", 3600000000000, "1h"},
		{"90s", 90000000000, "90s"}, {"120s", 120000000000, "2m"}, {"90m", 5400000000000, "90m"}, {"1001us", 1001000, "1001us"}, {"-60000ms", -60000000000, "-1m"},
		{most, 1<<63 - 1, most + "ns"}, {least, -1 << 63, least + "ns"}, {least + "ns", -1 << 63, least + "ns"},
		{"2562047h", 9223369200000000000, "2562047h"}, {"-2562047h", -9223369200000000000, "-2562047h"}, {"153722867m", 9223372020000000000, "153722867m"},
		{"9223372036854775us", 9223372036854775000, "9223372036854775us"}, {"9223372036854ms", 9223372036854000000, "9223372036854ms"}, {"-9223372036s", -9223372036000000000, "-9223372036s"},
	} {
		plain := strings.Trim(x.token, "-0123456789") == ""
		for _, f := range []string{"dur", "self", "total"} {
			reads(t, "{"+f+" <= "+x.token+"}", of(spans(is(f, api.OpLe, number(x.n)))))
			prints(t, of(spans(is(f, api.OpLe, number(x.n)))), "{"+f+" <= "+x.asTimes+"}")
			for _, s := range []string{"max", "min", "sum"} {
				reads(t, "{}|"+s+" "+f+"="+x.token, of(all(), api.Stage{Name: s, Field: f, Op: api.OpEq, Int: x.n}))
				prints(t, of(all(), api.Stage{Name: s, Field: f, Op: api.OpEq, Int: x.n}), "{} | "+s+" "+f+" = "+x.asTimes)
			}
		}
		digits := strings.TrimSuffix(form(t, "{start = "+x.token+"}"), "}")[len("{start = "):]
		for _, f := range []string{"start", ".k"} {
			reads(t, "{"+f+" <= "+x.token+"}", of(spans(is(f, api.OpLe, number(x.n)))))
			prints(t, of(spans(is(f, api.OpLe, number(x.n)))), "{"+f+" <= "+digits+"}")
		}
		for _, f := range []string{"depth", "events", "links"} {
			prints(t, of(spans(is(f, api.OpLe, number(x.n)))), "{"+f+" <= "+digits+"}")
			if !plain {
				faulty(t, "{"+f+"="+x.token+"}", len(f)+2, api.ErrLangValue)
			}
		}
		prints(t, of(all(), api.Stage{Name: "count", Op: api.OpEq, Int: x.n}), "{} | count = "+digits)
		if !plain {
			faulty(t, "{}|count="+x.token, 9, api.ErrLangValue)
			faulty(t, "{}|top "+x.token+" by dur", 7, api.ErrLangValue)
		}
	}
	for token := range map[string]int{
		"9223372036854775808": 0, "-9223372036854775809": 0, "18446744073709551616": 0, "9223372036854775808ns": 0, "9223372036854776us": 0, "-9223372036854776us": 0,
		"9223372036855ms": 0, "9223372037s": 0, "153722868m": 0, "2562048h": 0, "-2562048h": 0, "5124096h": 0, "1" + strings.Repeat("0", 300): 0, "1" + strings.Repeat("0", 300) + "h": 0,
	} {
		for _, f := range []string{"dur", "start", ".key", "depth"} {
			faulty(t, "{"+f+"="+token+"}", len(f)+2, api.ErrLangValue)
		}
		faulty(t, "{}|max dur>"+token, 11, api.ErrLangValue)
		faulty(t, "{}|count>"+token, 9, api.ErrLangValue)
		faulty(t, "{}|top "+token+" by dur", 7, api.ErrLangValue)
	}
}

// TEXTs stand for what is between their quotes, but for the signs.
func TestTexts(t *testing.T) {
	for token, s := range map[string]string{
		`""`: "", `"a"`: "a", `"\""`: `"`, `"\\"`: `\`, `"\\\""`: `\"`, `"a\\"`: `a\`, `"{} || \\ * ?"`: `{} || \ * ?`, "\"\n\t\r\x00\x7f\"": "\n\t\r\x00\x7f",
		`"é"`: "é", `"😀\""`: `😀"`, "\"\uFFFD\"": "\uFFFD", "\"\U0010FFFF\"": "\U0010FFFF", `"  and "`: "  and ", `"/n"`: "/n",
		`"` + strings.Repeat("a", 200) + `"`: strings.Repeat("a", 200), `"` + strings.Repeat("é", 100) + `"`: strings.Repeat("é", 100),
		`"` + strings.Repeat(`\"`, 200) + `"`: strings.Repeat(`"`, 200), `"` + strings.Repeat(`\\`, 200) + `"`: strings.Repeat(`\`, 200),
	} {
		for _, f := range []string{"service", "op", ".k"} {
			reads(t, "{"+f+"="+token+"}", of(spans(is(f, api.OpEq, text(s)))))
			prints(t, of(spans(is(f, api.OpLike, text(s)))), "{"+f+" =~ "+token+"}")
		}
	}
	long := strings.Repeat("a", 201)
	for _, s := range []string{`"` + long + `"`, `"` + strings.Repeat("é", 101) + `"`, `"` + strings.Repeat(`\"`, 201) + `"`} {
		faulty(t, "{op = "+s+"}", 6, api.ErrLangValue)
		faulty(t, "{.k = "+s+"}", 6, api.ErrLangValue)
		faulty(t, "{dur ="+s+"}", 6, api.ErrLangValue)
	}
	for _, bad := range []string{`"`, `"a}`, `"a\"}`, `"a\`, `"\n"`, `"\a" and`, `"\ "`, `"\é"`, "\"\xff\"", "\"\xc3\"", "\"\xc3(\"", "\"\xed\xa0\x80\"", "\"\xc0\x80\"", "\"\xf4\x90\x80\x80\"", "\"é\xa9\""} {
		faulty(t, "{op = "+bad, 6, api.ErrLangToken)
		faulty(t, "{op = "+bad+"}", 6, api.ErrLangToken)
		faulty(t, bad, 0, api.ErrLangToken)
	}
}

func TestKeys(t *testing.T) {
	for _, key := range []string{".a", ".z", ".a.b", ".http.code", ".k-1", ".k_", ".a-", ".a.", ".and", ".dur", ".a..b", ".a0123456789_-z", "." + strings.Repeat("k", 40)} {
		prints(t, of(spans(is(key, api.OpEq, number(1)))), "{"+key+" = 1}")
		reads(t, "{"+key+"=1}", of(spans(is(key, api.OpEq, number(1)))))
	}
	for _, bad := range []string{".", "..a", ".1", "._a", ".-a", ".A", ". a", ".é", "." + strings.Repeat("k", 41), ".." + strings.Repeat("k", 20)} {
		faulty(t, "{"+bad+"=1}", 1, api.ErrLangToken)
		noTree(t, of(spans(is(bad, api.OpEq, number(1)))))
	}
	faulty(t, "{.aB = 1}", 3, api.ErrLangToken) // the key ends ahead of it
	faulty(t, "{.a b = 1}", 4, api.ErrLangWord)
	for _, bad := range []string{"a", "", ".aB", ".a b", ".a=", ".aé", "dur ", " dur", "Dur", "durs", "\".a\"", "5", "and"} {
		noTree(t, of(spans(is(bad, api.OpEq, number(1)))))
	}
}
