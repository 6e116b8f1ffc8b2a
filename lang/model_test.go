package lang_test

import (
	"errors"
	"math/big"
	"math/rand/v2"
	"regexp"
	"slices"
	"strings"
	"testing"
	"unicode/utf8"

	"spoor/api"
	"spoor/lang"
)

// The model reads a text by other means: tokens by regular expressions, faults by a machine that has what must follow on a stack, trees by cutting at the last operator of the least line.

type piece struct {
	at   int
	s    string
	kind string // sign, word, key, number, text, end; bad
}

var escapes = regexp.MustCompile(`(?s)\\(.)`)

// shapes: what bytes a token of a kind has, and which of these it may be.
var shapes = makeShapes()

func makeShapes() map[string][2]*regexp.Regexp {
	l := map[string][2]*regexp.Regexp{}
	for kind, x := range map[string][2]string{
		"sign":   {`^(\|\||&&|>>|!=|<=|>=|=~|[{}()|>~=<])`, `.`},
		"word":   {`^[a-z]+`, `.`},
		"key":    {`^\.[a-z0-9._-]*`, `^\.[a-z][a-z0-9._-]{0,39}$`},
		"number": {`^(-|[0-9])[0-9]*[a-z]*`, `^-?(0|[1-9][0-9]*)(ns|us|ms|s|m|h)?$`},
		"text":   {`(?s)^"([^"\\]|\\.)*"`, `(?s)^"([^"\\]|\\["\\])*"$`},
	} {
		l[kind] = [2]*regexp.Regexp{regexp.MustCompile(x[0]), regexp.MustCompile(x[1])}
	}
	return l
}

func pieces(s string) []piece {
	var l []piece
	for at := 0; at < len(s); {
		if strings.IndexByte(" \t\r\n", s[at]) >= 0 {
			at++
			continue
		}
		p := piece{at, "", "bad"}
		for kind, x := range shapes {
			if b := x[0].FindString(s[at:]); b != "" && x[1].MatchString(b) && utf8.ValidString(b) {
				p.s, p.kind = b, kind
			}
		}
		l = append(l, p)
		if p.kind == "bad" {
			return l
		}
		at += len(p.s)
	}
	return append(l, piece{len(s), "", "end"})
}

// grammar: of what must follow, by the next token, what must follow then; without a rule for the token that of `else`.
func grammar() map[string]map[string]string {
	return map[string]map[string]string{
		"QUERY":  {"else": "SET STAGES end"},
		"STAGES": {"|": "| STAGE STAGES", "else": ""},
		"SET":    {"else": "BOTH SETS"},
		"SETS":   {"||": "|| BOTH SETS", "else": ""},
		"BOTH":   {"else": "CHAIN BOTHS"},
		"BOTHS":  {"&&": "&& CHAIN BOTHS", "else": ""},
		"CHAIN":  {"else": "UNIT CHAINS"},
		"CHAINS": {">": "> UNIT CHAINS", ">>": ">> UNIT CHAINS", "~": "~ UNIT CHAINS", "else": ""},
		"UNIT":   {"{": "{ MAYBE } UP", "(": "( SET ) UP"},
		"MAYBE":  {"}": "", "else": "COND"},
		"COND":   {"else": "CONJ CONDS"},
		"CONDS":  {"or": "or CONJ CONDS", "else": ""},
		"CONJ":   {"else": "NEG CONJS"},
		"CONJS":  {"and": "and NEG CONJS", "else": ""},
		"NEG":    {"not": "not NEG UP", "(": "( COND ) UP", "else": "FIELD OP VALUE"},
		"STAGE":  {"count": "count COUNTS OP VALUE", "max": "max TIME OP VALUE", "min": "min TIME OP VALUE", "sum": "sum TIME OP VALUE", "top": "top COUNTS TOP by ORDER"},
	}
}

type machine struct {
	rules     map[string]map[string]string
	stack     []string
	deep      int
	field, op string
}

// fault tells the first one; OK, if there is none.
func (m *machine) fault(l []piece) (int, api.Errno) {
	m.stack, m.deep = []string{"QUERY"}, 0
	for _, p := range l {
		if p.kind == "bad" {
			return p.at, api.ErrLangToken
		}
		if e := m.step(p); e != api.OK {
			return p.at, e
		}
	}
	return 0, api.OK
}

func (m *machine) step(p piece) api.Errno {
	for {
		top := m.stack[len(m.stack)-1]
		m.stack = m.stack[:len(m.stack)-1]
		if rule := m.rules[top]; rule != nil {
			then, is := rule[p.s]
			if !is {
				if then, is = rule["else"]; !is {
					return api.ErrLangWord
				}
			}
			l := strings.Fields(then)
			slices.Reverse(l)
			m.stack = append(m.stack, l...)
			continue
		}
		switch top {
		case "UP":
			m.deep--
			continue
		case "COUNTS":
			m.field = "depth"
			continue
		}
		return m.token(top, p)
	}
}

func (m *machine) token(top string, p piece) api.Errno {
	switch top {
	case "FIELD", "TIME", "ORDER":
		m.field = p.s
		if top == "FIELD" && anyOperators(p.s) > 0 && p.kind != "text" || slices.Contains([]string{"dur", "self", "total"}, p.s) || top == "ORDER" && p.s == "start" {
			return api.OK
		}
		return api.ErrLangWord
	case "OP":
		m.op = p.s
		if i := slices.Index(signs(), p.s); i < 0 || i >= anyOperators(m.field) {
			return api.ErrLangWord
		}
		return api.OK
	case "VALUE", "TOP":
		return m.value(top, p)
	case "end":
		if p.kind != "end" {
			return api.ErrLangWord
		}
		return api.OK
	}
	if p.s != top {
		return api.ErrLangWord
	}
	if top == "(" || top == "{" || top == "not" {
		if m.deep++; m.deep > 50 {
			return api.ErrLangDeep
		}
	}
	return api.OK
}

func (m *machine) value(top string, p piece) api.Errno {
	if p.kind != "text" && p.kind != "number" && p.kind != "word" {
		return api.ErrLangWord
	}
	v, kind := valueOf(p)
	if top == "TOP" {
		if kind != "number" || v.Int < 1 || v.Int > 1000 {
			return api.ErrLangValue
		}
		return api.OK
	}
	if slices.Index(signs(), m.op) >= operatorsOf(m.field, kind) {
		return api.ErrLangValue
	}
	return api.OK
}

// valueOf is what a piece stands for, and what it is, as TestComparisons has it.
func valueOf(p piece) (api.Value, string) {
	switch p.kind {
	case "text":
		s := escapes.ReplaceAllString(p.s[1:len(p.s)-1], "$1")
		if len(s) > 200 {
			return api.Value{}, "none"
		}
		return text(s), "text"
	case "number":
		digits := strings.TrimRight(p.s, "nusmh")
		n, _ := new(big.Int).SetString(digits, 10)
		kind := "number"
		if unit := p.s[len(digits):]; unit != "" {
			kind = "duration"
			n.Mul(n, big.NewInt(map[string]int64{"ns": 1, "us": 1e3, "ms": 1e6, "s": 1e9, "m": 60e9, "h": 3600e9}[unit]))
		}
		if !n.IsInt64() {
			return api.Value{}, "none"
		}
		return number(n.Int64()), kind
	}
	for _, x := range operands() {
		if x.token == p.s {
			return x.value, x.kind
		}
	}
	return api.Value{}, "none"
}

// treeOf pieces that have no fault: cut at the last sign of the least line that stands in no brackets.
func treeOf(l []piece, lines []map[string]api.Op, one func([]piece) api.Expr) api.Expr {
	for _, line := range lines {
		deep := 0
		for i := len(l) - 1; i >= 0; i-- {
			switch l[i].s {
			case ")", "}":
				deep++
			case "(", "{":
				deep--
			}
			if op, is := line[l[i].s]; is && deep == 0 {
				return two(op, treeOf(l[:i], lines, one), treeOf(l[i+1:], lines, one))
			}
		}
	}
	return one(l)
}

func setOf(l []piece) api.Expr {
	lines := []map[string]api.Op{{"||": api.OpEither}, {"&&": api.OpBoth}, {">": api.OpChild, ">>": api.OpBelow, "~": api.OpBeside}}
	return treeOf(l, lines, func(l []piece) api.Expr {
		within := l[1 : len(l)-1]
		switch {
		case l[0].s == "(":
			return setOf(within)
		case len(within) == 0:
			return all()
		}
		return spans(condOf(within))
	})
}

func condOf(l []piece) api.Expr {
	lines := []map[string]api.Op{{"or": api.OpOr}, {"and": api.OpAnd}}
	return treeOf(l, lines, func(l []piece) api.Expr {
		switch l[0].s {
		case "not":
			return not(condOf(l[1:]))
		case "(":
			return condOf(l[1 : len(l)-1])
		}
		v, _ := valueOf(l[2])
		return is(l[0].s, api.OpEq+api.Op(slices.Index(signs(), l[1].s)), v)
	})
}

func queryOf(l []piece) api.Query {
	var parts [][]piece
	begin := 0
	for i, p := range l {
		if p.s == "|" || p.kind == "end" {
			parts = append(parts, l[begin:i])
			begin = i + 1
		}
	}
	q := of(setOf(parts[0]))
	for _, x := range parts[1:] {
		s := api.Stage{Name: x[0].s}
		if s.Name == "top" {
			v, _ := valueOf(x[1])
			s.Field, s.Int = x[3].s, v.Int
		} else {
			v, _ := valueOf(x[len(x)-1])
			s.Op, s.Int = api.OpEq+api.Op(slices.Index(signs(), x[len(x)-2].s)), v.Int
			if len(x) == 4 {
				s.Field = x[1].s
			}
		}
		q.Stages = append(q.Stages, s)
	}
	return q
}

// maker makes texts at random, token by token.
type maker struct {
	*rand.Rand
}

func (m maker) one(l ...string) string { return l[m.IntN(len(l))] }

func (m maker) set(deep int) []string {
	switch n := m.IntN(10); {
	case deep > 0 && n < 5:
		return slices.Concat(m.set(deep-1), []string{m.one("||", "&&", ">", ">>", "~")}, m.set(deep-1))
	case deep > 0 && n < 7:
		return slices.Concat([]string{"("}, m.set(deep-1), []string{")"})
	case n < 8:
		return []string{"{", "}"}
	}
	return slices.Concat([]string{"{"}, m.cond(deep), []string{"}"})
}

func (m maker) cond(deep int) []string {
	switch n := m.IntN(10); {
	case deep > 0 && n < 5:
		return slices.Concat(m.cond(deep-1), []string{m.one("and", "or")}, m.cond(deep-1))
	case deep > 0 && n < 6:
		return slices.Concat([]string{"("}, m.cond(deep-1), []string{")"})
	case deep > 0 && n < 8:
		return slices.Concat([]string{"not"}, m.cond(deep-1))
	}
	f := m.one(fields()...)
	x := operands()[m.IntN(len(operands()))]
	for operatorsOf(f, x.kind) == 0 {
		x = operands()[m.IntN(len(operands()))]
	}
	return []string{f, signs()[m.IntN(operatorsOf(f, x.kind))], x.token}
}

func (m maker) stage() []string {
	switch m.IntN(3) {
	case 0:
		return []string{"|", "count", m.one(signs()[:6]...), m.one("0", "-5", "17")}
	case 1:
		return []string{"|", "top", m.one("1", "5", "1000"), "by", m.one("dur", "self", "total", "start")}
	}
	return []string{"|", m.one("max", "min", "sum"), m.one("dur", "self", "total"), m.one(signs()[:6]...), m.one("0", "-5", "17", "3ms", "-1h")}
}

func (m maker) query() []string {
	l := m.set(m.IntN(5))
	for m.IntN(2) == 0 {
		l = append(l, m.stage()...)
	}
	return l
}

// joined puts blanks between tokens, one at least.
func (m maker) joined(l []string) string {
	var b strings.Builder
	blanks := func(least int) {
		for range least + m.IntN(3)*m.IntN(2) {
			b.WriteString(m.one(" ", " ", "\t", "\n", "\r"))
		}
	}
	blanks(0)
	for i, t := range l {
		if i > 0 {
			blanks(1)
		}
		b.WriteString(t)
	}
	blanks(0)
	return b.String()
}

// spoilt changes tokens, or bytes of the text.
func (m maker) spoilt(l []string) string {
	for m.IntN(3) > 0 {
		i := m.IntN(len(l))
		other := m.one("{", "}", "(", ")", "|", "||", "&&", ">", ">>", "~", "=", "!=", "<", "<=", ">=", "=~", "and", "or", "not", "by", "count", "top", "max", "dur", "leaf", "kind", ".k", "5", "5ms", "0", "1001", "9223372036854775808", `"x"`, "true", "server", "x", "#", "05", ".", `"`, `"\n"`, "é", strings.Repeat("(", 60), strings.Repeat("(", 30), strings.Repeat("not ", 50))
		switch m.IntN(4) {
		case 0:
			l = slices.Concat(l[:i], l[i+1:])
		case 1:
			l = slices.Concat(l[:i], []string{other}, l[i+1:])
		default:
			l = slices.Concat(l[:i], []string{other}, l[i:])
		}
		if len(l) == 0 {
			return ""
		}
	}
	if m.IntN(2) == 0 {
		return strings.Join(l, " ")
	}
	s := []byte(strings.Join(l, m.one("", " ", "\n")))
	for m.IntN(3) > 0 && len(s) > 0 {
		i := m.IntN(len(s))
		s[i] = m.one(" ", "a", "0", "-", ".", "\"", "\\", "\xc3", "=", ">", "|", "&", "(", "}")[0]
	}
	return string(s)
}

// Parse is what the model says, of texts that are right and of texts that are not.
func TestParseModel(t *testing.T) {
	m := maker{rand.New(rand.NewPCG(16, 1))}
	g := &machine{rules: grammar()}
	faults := map[api.Errno]int{}
	for i := range 15000 {
		l := m.query()
		s := m.joined(l)
		if i%3 > 0 {
			s = m.spoilt(l)
		}
		if len(s) > api.MaxQuery {
			faulty(t, s, 0, api.ErrLangLong)
			continue
		}
		cut := pieces(s)
		at, e := g.fault(cut)
		faults[e]++
		if e != api.OK {
			faulty(t, s, at, e)
			continue
		}
		reads(t, s, queryOf(cut))
	}
	for _, e := range []api.Errno{api.OK, api.ErrLangToken, api.ErrLangWord, api.ErrLangValue, api.ErrLangDeep} {
		if faults[e] < 50 {
			t.Errorf("%v came %d times", e, faults[e])
		}
	}
}

// P16.5: any bytes are read, or refused at a place within them; as the model says.
func TestAnyBytes(t *testing.T) {
	m := maker{rand.New(rand.NewPCG(16, 2))}
	g := &machine{rules: grammar()}
	for range 30000 {
		b := make([]byte, m.IntN(12))
		for i := range b {
			b[i] = byte(m.IntN(256))
			if m.IntN(3) > 0 {
				b[i] = "{}()|&>~=!<\".ak05 -\\"[m.IntN(20)]
			}
		}
		s := string(b)
		q, err := lang.Parse(s)
		var f *api.Fault
		if err != nil && (!errors.As(err, &f) || f.At < 0 || f.At > len(s)) {
			t.Fatalf("%q: %v", s, err)
		}
		at, e := g.fault(pieces(s))
		switch {
		case e != api.OK:
			faulty(t, s, at, e)
		case err != nil || lang.Check(q) != api.OK:
			t.Fatalf("%q: %v", s, err)
		}
	}
	for i := range 256 {
		for _, around := range [][2]string{{"", ""}, {"{", "}"}, {"{dur = 5", "}"}, {"{op = \"", "\"}"}, {"{dur ", " 5}"}, {"{.k", "=1}"}, {"{} ", " {}"}, {"{}|", "count>1"}} {
			s := around[0] + string([]byte{byte(i)}) + around[1]
			at, e := g.fault(pieces(s))
			if e != api.OK {
				faulty(t, s, at, e)
			} else {
				reads(t, s, queryOf(pieces(s)))
			}
		}
	}
}

// P16.3: blanks between tokens, more or fewer, change nothing while the tokens stay.
func TestBlanks(t *testing.T) {
	m := maker{rand.New(rand.NewPCG(16, 3))}
	for range 6000 {
		l := m.query()
		var b strings.Builder
		for _, x := range l {
			b.WriteString(x)
			for m.IntN(4) == 0 {
				b.WriteString(m.one(" ", "\t", "\n", "\r"))
			}
		}
		cut := pieces(b.String())
		stay := slices.EqualFunc(cut[:len(cut)-1], l, func(p piece, s string) bool { return p.s == s })
		wide := strings.Join(l, " \r\n\t")
		if !stay || len(wide) > api.MaxQuery {
			continue
		}
		q, err := lang.Parse(wide)
		if err != nil {
			t.Fatalf("%q: %v", wide, err)
		}
		reads(t, b.String(), q)
	}
	reads(t, "{}||{}", of(two(api.OpEither, all(), all())))
	faulty(t, "{}| |{}", 4, api.ErrLangWord) // they do not stay
}

// P16.4: a set in brackets is the same one.
func TestBracketsAround(t *testing.T) {
	m := maker{rand.New(rand.NewPCG(16, 4))}
	for range 6000 {
		set := strings.Join(m.set(m.IntN(5)), " ")
		if len(set) > 1900 {
			continue
		}
		q, err := lang.Parse(set)
		if err != nil {
			t.Fatalf("%q: %v", set, err)
		}
		more := 1 + m.IntN(30)
		in := strings.Repeat("(", more) + set + strings.Repeat(")", more)
		reads(t, in, q)
		stage := strings.Join(m.stage(), " ")
		a, err := lang.Parse(set + stage)
		if err != nil {
			t.Fatalf("%q: %v", set+stage, err)
		}
		reads(t, in+stage, a)
	}
}

// P16.1 and P16.2: what is read is written and read again, in one form; trees, too, that no text was.
func TestThereAndBack(t *testing.T) {
	m := maker{rand.New(rand.NewPCG(16, 5))}
	for range 6000 {
		l := m.query()
		s := strings.Join(l, " ")
		if len(s) > api.MaxQuery {
			continue
		}
		q, err := lang.Parse(s)
		if err != nil || lang.Check(q) != api.OK {
			t.Fatalf("%q: %v", s, err)
		}
		f, e := lang.Print(q)
		if e != api.OK {
			t.Fatalf("%q: %v", s, e)
		}
		reads(t, f, q)
		if again := form(t, f); again != f {
			t.Fatalf("%q is written as %q, then as %q", s, f, again)
		}
		plainForm(t, pieces(f), f, q)
	}
}

// plainForm: the blanks of a form are where they must be, and no brackets of it may be left out.
func plainForm(t *testing.T, l []piece, f string, q api.Query) {
	t.Helper()
	var tokens []string
	for _, p := range l[:len(l)-1] {
		tokens = append(tokens, p.s)
	}
	want := strings.Join(tokens, "\n")
	for _, x := range [][2]string{{"{\n", "{"}, {"(\n", "("}, {"\n}", "}"}, {"\n)", ")"}} {
		want = strings.ReplaceAll(want, x[0], x[1])
	}
	if strings.ReplaceAll(want, "\n", " ") != f {
		t.Fatalf("the blanks of %q", f)
	}
	for i, s := range tokens {
		if s != "(" {
			continue
		}
		deep, end := 1, i
		for deep > 0 {
			end++
			switch tokens[end] {
			case "(":
				deep++
			case ")":
				deep--
			}
		}
		without := strings.Join(slices.Concat(tokens[:i], tokens[i+1:end], tokens[end+1:]), " ")
		if a, err := lang.Parse(without); err != nil || same(a, q) {
			t.Fatalf("%q is read like %q, or not at all: %v", without, f, err)
		}
	}
}

// Trees at random, most of which are spoilt somewhere, are told apart by the chapter's tables alone.
func TestCheckModel(t *testing.T) {
	m := maker{rand.New(rand.NewPCG(16, 6))}
	good := 0
	for range 8000 {
		q := queryOf(pieces(strings.Join(m.query(), " ")))
		if m.IntN(2) == 0 {
			m.spoil(&q.Set)
		}
		want := api.OK
		if !setMayBe(q.Set) {
			want = api.ErrLangTree
			noTree(t, q)
		} else {
			good++
		}
		if e := lang.Check(q); e != want {
			t.Fatalf("Check of %+v is %v, not %v", q, e, want)
		}
	}
	if good < 3000 || good > 7000 {
		t.Error(good)
	}
}

// spoil changes something in a tree.
func (m maker) spoil(e *api.Expr) {
	if len(e.Args) > 0 && m.IntN(3) > 0 {
		m.spoil(&e.Args[m.IntN(len(e.Args))])
		return
	}
	switch m.IntN(5) {
	case 0:
		e.Op = api.Op(m.IntN(19) - 1)
	case 1:
		e.Field = m.one(append(fields(), "", "x", ".", "..")...)
	case 2:
		e.Value = values()[m.IntN(len(values()))]
	case 3:
		e.Args = append(e.Args, all())
	case 4:
		e.Args = nil
	}
}

func setMayBe(e api.Expr) bool {
	bare := e.Field == "" && e.Value == api.Value{}
	switch {
	case e.Op == api.OpSpans:
		return bare && (len(e.Args) == 0 || len(e.Args) == 1 && condMayBe(e.Args[0]))
	case e.Op >= api.OpBoth && e.Op <= api.OpBeside:
		return bare && len(e.Args) == 2 && setMayBe(e.Args[0]) && setMayBe(e.Args[1])
	}
	return false
}

func condMayBe(e api.Expr) bool {
	bare := e.Field == "" && e.Value == api.Value{}
	switch {
	case e.Op == api.OpAnd || e.Op == api.OpOr:
		return bare && len(e.Args) == 2 && condMayBe(e.Args[0]) && condMayBe(e.Args[1])
	case e.Op == api.OpNot:
		return bare && len(e.Args) == 1 && condMayBe(e.Args[0])
	case e.Op >= api.OpEq && e.Op <= api.OpLike:
		v := e.Value
		if v.Kind == api.Text && v.Text == "true" {
			v.Text = "x" // of the texts that may be one is like another
		}
		return len(e.Args) == 0 && slices.Contains(fields(), e.Field) && treeMayBe(e.Field, int(e.Op-api.OpEq), v)
	}
	return false
}
