package lang_test

import (
	"strings"
	"testing"

	"spoor/api"
	"spoor/lang"
)

type fault struct {
	s  string
	at int
	e  api.Errno
}

func faults(t *testing.T, l []fault) {
	t.Helper()
	for _, x := range l {
		faulty(t, x.s, x.at, x.e)
	}
}

// Bytes that are no token, at the place of the first one.
func TestNoTokens(t *testing.T) {
	faults(t, []fault{
		{"&", 0, api.ErrLangToken}, {"!", 0, api.ErrLangToken}, {"-", 0, api.ErrLangToken}, {"A", 0, api.ErrLangToken}, {"é", 0, api.ErrLangToken}, {"\xff", 0, api.ErrLangToken}, {"\x00", 0, api.ErrLangToken}, {"\v", 0, api.ErrLangToken}, {"\f{}", 0, api.ErrLangToken}, {"\u00a0{}", 0, api.ErrLangToken}, {"\x7f", 0, api.ErrLangToken},
		{"  #", 2, api.ErrLangToken}, {"{} &", 3, api.ErrLangToken}, {"{}&&&{}", 4, api.ErrLangToken}, {"{dur ! = 5}", 5, api.ErrLangToken}, {"{dur = -}", 7, api.ErrLangToken}, {"{dur = - 5}", 7, api.ErrLangToken}, {"{dur = --5}", 7, api.ErrLangToken}, {"{dur = +5}", 7, api.ErrLangToken}, {"{dur = -ms}", 7, api.ErrLangToken},
		{"{dur = 00}", 7, api.ErrLangToken}, {"{dur = -05}", 7, api.ErrLangToken}, {"{dur = 01ms}", 7, api.ErrLangToken}, {"{dur = 5mss}", 7, api.ErrLangToken}, {"{dur = 5d}", 7, api.ErrLangToken}, {"{dur = 5and leaf = true}", 7, api.ErrLangToken}, {"{} | top 5by dur", 9, api.ErrLangToken},
		{"{dur = 5.5}", 8, api.ErrLangToken}, {"{dur = 5X}", 8, api.ErrLangToken}, {"{dur = 5_000}", 8, api.ErrLangToken}, {"{Dur = 5}", 1, api.ErrLangToken}, {"{durR = 5}", 4, api.ErrLangToken}, {"{'a' = 5}", 1, api.ErrLangToken},
		{"05", 0, api.ErrLangToken}, {"{05}", 1, api.ErrLangToken}, {"{.5}", 1, api.ErrLangToken}, {"{dur 05}", 5, api.ErrLangToken}, {"{} \xff", 3, api.ErrLangToken}, {"{}\xc3\xa9", 2, api.ErrLangToken},
	})
}

// Tokens are as long as they can be.
func TestLongTokens(t *testing.T) {
	faults(t, []fault{
		{"{dur >> 5}", 5, api.ErrLangWord}, {"{dur > > 5}", 7, api.ErrLangWord}, {"{dur > = 5}", 7, api.ErrLangWord}, {"{dur >== 5}", 7, api.ErrLangWord}, {"{dur == 5}", 6, api.ErrLangWord}, {"{op = ~ \"a\"}", 6, api.ErrLangWord}, {"{op =~~ \"a\"}", 6, api.ErrLangWord}, {"{op != = \"a\"}", 7, api.ErrLangWord}, {"{dur =< 5}", 6, api.ErrLangWord},
		{"{}>>>>{}", 4, api.ErrLangWord}, {"{}>>={}", 4, api.ErrLangWord}, {"{}>={}", 2, api.ErrLangWord}, {"{}|||count>1", 4, api.ErrLangWord}, {"{}| |{}", 4, api.ErrLangWord}, {"{}||count>1", 4, api.ErrLangWord}, {"{}=~{}", 2, api.ErrLangWord}, {"{}~~{}", 3, api.ErrLangWord}, {"{}&&||{}", 4, api.ErrLangWord},
		{"{durself = 5}", 1, api.ErrLangWord}, {"{notleaf = true}", 1, api.ErrLangWord}, {"{leaf = true andleaf = true}", 13, api.ErrLangWord}, {"{leaf = trueand leaf = true}", 8, api.ErrLangValue}, {"{} | countx > 1", 5, api.ErrLangWord}, {"{dur = 5ms5}", 10, api.ErrLangWord}, {"{dur = 5 ms}", 9, api.ErrLangWord}, {"{dur = 5-5}", 8, api.ErrLangWord}, {"{dur = 5.a}", 8, api.ErrLangWord}, {"{. a = 1}", 1, api.ErrLangToken},
	})
	tight := `{.k=5ms and.l=~"a"and not(.m!=-1)or dur<=1s}`
	if f := form(t, tight); f != `{.k = 5000000 and .l =~ "a" and not .m != -1 or dur <= 1s}` {
		t.Errorf("%q is %q", tight, f)
	}
	if f := form(t, "{}>{}>>{}~{}|count>=2|top5 by dur|max dur>-5ms"); f != "{} > {} >> {} ~ {} | count >= 2 | top 5 by dur | max dur > -5ms" {
		t.Error(f)
	}
}

// Tokens that cannot stand there.
func TestWrongWords(t *testing.T) {
	faults(t, []fault{
		{"", 0, api.ErrLangWord}, {" \t\r\n", 4, api.ErrLangWord}, {"}", 0, api.ErrLangWord}, {")", 0, api.ErrLangWord}, {"|", 0, api.ErrLangWord}, {"a", 0, api.ErrLangWord}, {".a", 0, api.ErrLangWord}, {"5", 0, api.ErrLangWord}, {`"a"`, 0, api.ErrLangWord}, {"99999999999999999999", 0, api.ErrLangWord}, {"not {}", 0, api.ErrLangWord}, {"()", 1, api.ErrLangWord}, {"(", 1, api.ErrLangWord}, {"( ", 2, api.ErrLangWord},
		{"{} {}", 3, api.ErrLangWord}, {"{})", 2, api.ErrLangWord}, {"({}", 3, api.ErrLangWord}, {"({}}", 3, api.ErrLangWord}, {"({} | count > 1)", 4, api.ErrLangWord}, {"({}) ({})", 5, api.ErrLangWord}, {"{} ||", 5, api.ErrLangWord}, {"{} || ", 6, api.ErrLangWord}, {"{} > |", 5, api.ErrLangWord}, {"{} and {}", 3, api.ErrLangWord}, {"{} or {}", 3, api.ErrLangWord}, {"{} = {}", 3, api.ErrLangWord}, {"{} < {}", 3, api.ErrLangWord}, {"|| {}", 0, api.ErrLangWord},
		{"{{}}", 1, api.ErrLangWord}, {"{()}", 2, api.ErrLangWord}, {"{not}", 4, api.ErrLangWord}, {"{not not}", 8, api.ErrLangWord}, {"{and}", 1, api.ErrLangWord}, {"{count = 1}", 1, api.ErrLangWord}, {"{true}", 1, api.ErrLangWord}, {"{server = kind}", 1, api.ErrLangWord}, {"{5 = dur}", 1, api.ErrLangWord}, {`{"a" = op}`, 1, api.ErrLangWord}, {"{by = 1}", 1, api.ErrLangWord},
		{"{leaf}", 5, api.ErrLangWord}, {"{leaf", 5, api.ErrLangWord}, {"{leaf =", 7, api.ErrLangWord}, {"{leaf = }", 8, api.ErrLangWord}, {"{leaf = true", 12, api.ErrLangWord}, {"{leaf true}", 6, api.ErrLangWord}, {"{leaf not true}", 6, api.ErrLangWord}, {"{leaf && leaf}", 6, api.ErrLangWord}, {"{leaf = true leaf = true}", 13, api.ErrLangWord}, {"{leaf = true and}", 16, api.ErrLangWord}, {"{leaf = true or}", 15, api.ErrLangWord}, {"{leaf = true && leaf = true}", 13, api.ErrLangWord}, {"{leaf = true || leaf = true}", 13, api.ErrLangWord}, {"{leaf = true not leaf = true}", 13, api.ErrLangWord}, {"{leaf = true)}", 12, api.ErrLangWord}, {"{(leaf = true}", 13, api.ErrLangWord}, {"{(leaf) = true}", 6, api.ErrLangWord}, {"{leaf = (true)}", 8, api.ErrLangWord}, {"{leaf = .k}", 8, api.ErrLangWord}, {"{.k = .k}", 6, api.ErrLangWord}, {"{dur = = 5}", 7, api.ErrLangWord}, {"{dur {", 5, api.ErrLangWord},
		{"{} |", 4, api.ErrLangWord}, {"{} | ", 5, api.ErrLangWord}, {"{} | {}", 5, api.ErrLangWord}, {"{} | avg dur > 1", 5, api.ErrLangWord}, {"{} | dur > 1", 5, api.ErrLangWord}, {"{} | 5", 5, api.ErrLangWord}, {"{} | .k", 5, api.ErrLangWord}, {`{} | "count"`, 5, api.ErrLangWord}, {"{} | count", 10, api.ErrLangWord}, {"{} | count 5", 11, api.ErrLangWord}, {"{} | count dur > 5", 11, api.ErrLangWord}, {"{} | count =~ 5", 11, api.ErrLangWord}, {"{} | count >> 5", 11, api.ErrLangWord}, {"{} | count > ", 13, api.ErrLangWord}, {"{} | count > 5 5", 15, api.ErrLangWord}, {"{} | count > |", 13, api.ErrLangWord}, {"{} | count > .k", 13, api.ErrLangWord}, {"{} | count > 5 || {}", 15, api.ErrLangWord}, {"{} | count > 5 > {}", 15, api.ErrLangWord},
		{"{} | max", 8, api.ErrLangWord}, {"{} | max > 5", 9, api.ErrLangWord}, {"{} | max start > 5", 9, api.ErrLangWord}, {"{} | min depth > 5", 9, api.ErrLangWord}, {"{} | sum .k > 5", 9, api.ErrLangWord}, {"{} | sum events > 5", 9, api.ErrLangWord}, {"{} | sum leaf = 5", 9, api.ErrLangWord}, {"{} | sum 5 = 5", 9, api.ErrLangWord}, {"{} | max dur", 12, api.ErrLangWord}, {"{} | max dur 5", 13, api.ErrLangWord}, {"{} | max dur =~ 5", 13, api.ErrLangWord}, {"{} | max dur by 5", 13, api.ErrLangWord}, {"{} | max dur =", 14, api.ErrLangWord}, {"{} | max dur = dur by", 15, api.ErrLangValue}, {"{} | max dur = 5 by", 17, api.ErrLangWord},
		{"{} | top", 8, api.ErrLangWord}, {"{} | top > 5", 9, api.ErrLangWord}, {"{} | top .k", 9, api.ErrLangWord}, {"{} | top 5", 10, api.ErrLangWord}, {"{} | top 5 |", 11, api.ErrLangWord}, {"{} | top 5 by", 13, api.ErrLangWord}, {"{} | top 5 by by", 14, api.ErrLangWord}, {"{} | top 5 by .k", 14, api.ErrLangWord}, {"{} | top 5 by events", 14, api.ErrLangWord}, {"{} | top 5 by service", 14, api.ErrLangWord}, {"{} | top 5 by 5", 14, api.ErrLangWord}, {"{} | top 5 by dur > 5", 18, api.ErrLangWord}, {"{} | top 5 = 5", 11, api.ErrLangWord},
	})
}

// Values that may not stand there: which ones may, of each field and operator, is told by TestComparisons.
func TestWrongValues(t *testing.T) {
	faults(t, []fault{
		{"{dur = and}", 7, api.ErrLangValue}, {"{dur = dur}", 7, api.ErrLangValue}, {"{op = a}", 6, api.ErrLangValue}, {"{op = 5}", 6, api.ErrLangValue}, {"{op = true}", 6, api.ErrLangValue}, {"{kind = 1}", 8, api.ErrLangValue}, {"{kind = failed}", 8, api.ErrLangValue}, {`{kind = "server"}`, 8, api.ErrLangValue}, {"{status = 0}", 10, api.ErrLangValue}, {"{status = server}", 10, api.ErrLangValue}, {"{leaf = 1}", 8, api.ErrLangValue}, {`{leaf = "true"}`, 8, api.ErrLangValue}, {"{leaf = yes}", 8, api.ErrLangValue}, {"{leaf = not}", 8, api.ErrLangValue}, {"{depth = 0h}", 9, api.ErrLangValue}, {"{.k = server}", 6, api.ErrLangValue}, {"{.k = truex}", 6, api.ErrLangValue}, {"{.k =~ 5ms}", 7, api.ErrLangValue}, {"{.k =~ true}", 7, api.ErrLangValue}, {"{.k >= false}", 7, api.ErrLangValue},
		{`{} | count > "5"`, 13, api.ErrLangValue}, {"{} | count > many", 13, api.ErrLangValue}, {"{} | count > true", 13, api.ErrLangValue}, {"{} | count > 5ns", 13, api.ErrLangValue}, {`{} | max dur > "5"`, 15, api.ErrLangValue}, {"{} | max dur > dur", 15, api.ErrLangValue},
		{"{} | top -1 by dur", 9, api.ErrLangValue}, {"{} | top -0 by dur", 9, api.ErrLangValue}, {"{} | top 1001 by dur", 9, api.ErrLangValue}, {"{} | top 5s by dur", 9, api.ErrLangValue}, {"{} | top by dur", 9, api.ErrLangValue}, {`{} | top "5" by dur`, 9, api.ErrLangValue}, {"{} | top five by dur", 9, api.ErrLangValue},
	})
}

// Of several faults the one whose token stands first is told, whatever the others are; of one token's the first one.
func TestFirstFault(t *testing.T) {
	deep := strings.Repeat("(", 50)
	faults(t, []fault{
		{"{a = #}", 1, api.ErrLangWord}, {"{dur =~ #}", 5, api.ErrLangWord}, {`{dur = "x" #`, 7, api.ErrLangValue}, {"{dur = 5x =~ }", 7, api.ErrLangToken}, {"{kind = served #", 8, api.ErrLangValue}, {"{} | top 0 #", 9, api.ErrLangValue}, {"{} | top 5 dur #", 11, api.ErrLangWord}, {"{} # {", 3, api.ErrLangToken}, {"{dur # \"x\"}", 5, api.ErrLangToken}, {"{.k =~ 5 =", 7, api.ErrLangValue}, {"{} {} #", 3, api.ErrLangWord}, {"{op = \"a", 6, api.ErrLangToken}, {"{oq = \"a", 1, api.ErrLangWord}, {"{dur = \"a", 7, api.ErrLangToken},
		{deep + "(#", 50, api.ErrLangDeep}, {deep + "{#", 50, api.ErrLangDeep}, {deep + ")(", 50, api.ErrLangWord}, {deep + "not", 50, api.ErrLangWord}, {deep + "#", 50, api.ErrLangToken}, {deep[1:] + "{(", 50, api.ErrLangDeep}, {deep[1:] + "{not", 50, api.ErrLangDeep}, {deep[1:] + "{{", 50, api.ErrLangWord}, {deep[1:] + "{leaf(", 54, api.ErrLangWord}, {deep[1:] + "{leaf = true not", 62, api.ErrLangWord},
	})
}

// Too long is told first, at 0, whatever stands there.
func TestTooLong(t *testing.T) {
	for _, s := range []string{"{}" + strings.Repeat(" ", 1999), strings.Repeat("#", 2001), strings.Repeat("(", 2001), strings.Repeat("\xff", 5000), strings.Repeat("{} || ", 400) + "{}"} {
		faulty(t, s, 0, api.ErrLangLong)
	}
	reads(t, "{}"+strings.Repeat(" ", 1998), of(all()))
	faulty(t, strings.Repeat(" ", 1999)+"#", 1999, api.ErrLangToken)
	faulty(t, strings.Repeat(" ", 2000), 2000, api.ErrLangWord)
	faulty(t, strings.Repeat("{}||", 500), 2000, api.ErrLangWord)
}

// What nests: brackets of both kinds, and not.
func TestDeep(t *testing.T) {
	in := func(n int, left, s, right string) string {
		return strings.Repeat(left, n) + s + strings.Repeat(right, n)
	}
	reads(t, in(49, "(", "{}", ")"), of(all()))
	faulty(t, in(50, "(", "{}", ")"), 50, api.ErrLangDeep)
	faulty(t, in(51, "(", "{}", ")"), 50, api.ErrLangDeep)
	reads(t, "{"+in(49, "(", "leaf=true", ")")+"}", of(spans(leaf())))
	faulty(t, "{"+in(50, "(", "leaf=true", ")")+"}", 50, api.ErrLangDeep)
	nots := leaf()
	for range 49 {
		nots = not(nots)
	}
	prints(t, of(spans(nots)), "{"+in(49, "not ", "leaf = true", "")+"}")
	noTree(t, of(spans(not(nots))))
	faulty(t, "{"+in(50, "not ", "leaf = true", "")+"}", 1+4*49, api.ErrLangDeep)
	faulty(t, "("+"{"+in(49, "not ", "leaf = true", "")+"})", 2+4*48, api.ErrLangDeep)
	mixed := leaf()
	for range 14 {
		mixed = not(mixed)
	}
	reads(t, in(20, "(", "{"+in(14, "not(", "leaf=true", ")")+"}", ")"), of(spans(mixed))) // 20, 1, and 28
	reads(t, in(21, "(", "{"+in(14, "not(", "leaf=true", ")")+"}", ")"), of(spans(mixed)))
	faulty(t, in(22, "(", "{"+in(14, "not(", "leaf=true", ")")+"}", ")"), 22+1+4*13+3, api.ErrLangDeep)
	faulty(t, in(23, "(", "{"+in(14, "not(", "leaf=true", ")")+"}", ")"), 23+1+4*13, api.ErrLangDeep)
}

// What has ended nests no more: side by side there may be many.
func TestDeepSideBySide(t *testing.T) {
	q, err := lang.Parse(strings.Repeat("(({}))||", 200) + "{not leaf=true and not leaf=true or not(leaf=true)}")
	if err != nil || lang.Check(q) != api.OK {
		t.Fatal(err)
	}
	part := strings.Repeat("(", 49) + "{}" + strings.Repeat(")", 49)
	reads(t, part+">"+part, of(two(api.OpChild, all(), all())))
	nots := strings.Repeat("not ", 49) + "leaf=true"
	if _, err := lang.Parse("{" + nots + " and " + nots + " or(" + nots[4:] + ")}"); err != nil {
		t.Fatal(err)
	}
}

// A tree's form is nested by its brackets, not by its parts: from the left there is no end of them, from the right there is.
func TestDeepTrees(t *testing.T) {
	left, right := all(), all()
	for range 49 {
		left, right = two(api.OpChild, left, all()), two(api.OpChild, all(), right)
	}
	prints(t, of(left), "{}"+strings.Repeat(" > {}", 49))
	prints(t, of(right), strings.Repeat("{} > (", 48)+"{} > {}"+strings.Repeat(")", 48))
	right = two(api.OpChild, all(), right)
	prints(t, of(right), strings.Repeat("{} > (", 49)+"{} > {}"+strings.Repeat(")", 49))
	noTree(t, of(two(api.OpChild, all(), right)))
	noTree(t, of(two(api.OpEither, two(api.OpChild, all(), right), all())))
	prints(t, of(two(api.OpEither, right, all())), strings.Repeat("{} > (", 49)+"{} > {}"+strings.Repeat(")", 49)+" || {}")
	conds := leaf()
	for range 49 {
		conds = two(api.OpOr, leaf(), conds)
	}
	prints(t, of(spans(conds)), "{"+strings.Repeat("leaf = true or (", 48)+"leaf = true or leaf = true"+strings.Repeat(")", 48)+"}")
	conds = two(api.OpOr, leaf(), conds)
	prints(t, of(spans(conds)), "{"+strings.Repeat("leaf = true or (", 49)+"leaf = true or leaf = true"+strings.Repeat(")", 49)+"}")
	noTree(t, of(spans(two(api.OpOr, leaf(), conds))))
	noTree(t, of(two(api.OpBoth, all(), two(api.OpBoth, all(), spans(conds)))))
}

// Trees of very many parts are looked at whole, and soon.
func TestManyParts(t *testing.T) {
	set, cond, right, nots := all(), leaf(), all(), leaf()
	for range 1<<16 - 1 {
		set, cond = two(api.OpBoth, set, all()), two(api.OpAnd, cond, leaf())
		right, nots = two(api.OpBoth, all(), right), not(nots)
	}
	for _, q := range []api.Query{of(set), of(spans(cond))} {
		if e := lang.Check(q); e != api.OK {
			t.Fatal(e)
		}
	}
	for _, q := range []api.Query{of(set), of(spans(cond))} {
		if s, e := lang.Print(q); s != "" || e != api.ErrLangLong {
			t.Fatal(len(s), e)
		}
	}
	wide := all()
	for range 40000 {
		wide = two(api.OpBoth, wide, two(api.OpEither, two(api.OpChild, all(), all()), all())) // more than are nested
	}
	if e := lang.Check(of(wide)); e != api.OK {
		t.Fatal(e)
	}
	for _, e := range []api.Expr{right, spans(nots), two(api.OpBoth, set, leaf()), two(api.OpBoth, set, api.Expr{})} {
		if c := lang.Check(of(e)); c != api.ErrLangTree {
			t.Fatal(c)
		}
		if s, p := lang.Print(of(e)); s != "" || p != api.ErrLangTree {
			t.Fatal(len(s), p)
		}
	}
}

// A list that is a part of itself makes a tree without an end, which nobody writes.
func TestEndless(t *testing.T) {
	for _, op := range []api.Op{api.OpSpans, api.OpBoth, api.OpEither, api.OpChild, api.OpNot, api.OpAnd, api.OpOr} {
		for n := 1; n <= 2; n++ {
			for at := range n {
				l := []api.Expr{all(), all()}[:n]
				if op >= api.OpAnd {
					l = []api.Expr{leaf(), leaf()}[:n]
				}
				l[at] = api.Expr{Op: op, Args: l}
				for _, e := range []api.Expr{l[at], spans(l[at])} {
					if c := lang.Check(of(e)); c != api.ErrLangTree {
						t.Fatal(op, n, at, c)
					}
				}
			}
		}
	}
}
