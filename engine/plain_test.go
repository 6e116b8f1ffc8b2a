package engine_test

import (
	"cmp"
	"errors"
	"maps"
	"math/big"
	"math/rand/v2"
	"slices"
	"strings"
	"testing"

	"spoor/api"
	"spoor/forest"
	"spoor/index"
	"spoor/lang"
	"spoor/match"
	"spoor/own"
	"spoor/sketch"
	"spoor/span"
	"spoor/sweep"
)

// A plain engine: a set of spans, of which each question is answered by looking at all of it anew.

type plain map[api.Hit]api.Span

func (p plain) put(l ...api.Span) []api.Change {
	var became []api.Change
	for _, s := range l {
		name := api.Hit{Trace: s.Trace, ID: s.ID}
		old, there := p[name]
		switch {
		case !there:
			became = append(became, api.Fresh)
		case span.Compare(old, s) < 0:
			became = append(became, api.Better)
		default:
			became = append(became, api.Kept)
			continue
		}
		p[name] = s
	}
	return became
}

func order(a, b api.TraceID) int { return cmp.Or(cmp.Compare(a.Hi, b.Hi), cmp.Compare(a.Lo, b.Lo)) }

func (p plain) traces() []api.TraceID {
	seen := map[api.TraceID]int{}
	for name := range p {
		seen[name.Trace]++
	}
	return slices.SortedFunc(maps.Keys(seen), order)
}

func (p plain) trace(t api.TraceID) []api.Span {
	var l []api.Span
	for name, s := range p {
		if name.Trace == t {
			l = append(l, s)
		}
	}
	slices.SortFunc(l, func(a, b api.Span) int { return cmp.Compare(a.ID, b.ID) })
	return l
}

func (p plain) forest(t api.TraceID) *forest.Forest {
	f, n := forest.Build(p.trace(t))
	if n != api.OK {
		panic(n)
	}
	return f
}

// question is a request, part by part.
type question struct {
	kind     int
	trace    api.TraceID
	root     api.SpanID
	from, to int64
	by, most uint64
	query    string
	budget   uint64
}

func (q question) bytes() []byte {
	switch q.kind {
	case 1, 2, 3, 5:
		return laid(q.kind, q.trace)
	case 4, 6:
		return laid(q.kind, q.trace, q.root)
	case 7, 9:
		return laid(q.kind, q.from, q.to)
	case 8:
		return laid(q.kind, q.from, q.to, q.by, q.most)
	case 10:
		return laid(q.kind, q.trace, q.most)
	case 12:
		return laid(q.kind, q.query, q.budget)
	case 13:
		return laid(q.kind, q.query)
	}
	return laid(q.kind)
}

// answer is what the chapter's table says of a question, of this set.
func (p plain) answer(q question, fan int64) []byte {
	switch q.kind {
	case 7, 8, 9:
		return p.tallied(q, fan)
	case 10:
		return p.listed(q)
	case 11:
		first, behind := int64(0), int64(0)
		for i, c := range p.calls() {
			if i == 0 || c.Hour < first {
				first = c.Hour
			}
			behind = max(behind, c.Hour+1)
		}
		return laid(0, len(p), len(p.traces()), first, behind)
	case 12, 13:
		return p.queried(q)
	}
	return p.looked(q)
}

func listed[T any](l []T, each func(T) []byte) []byte {
	b := laid(len(l))
	for _, x := range l {
		b = append(b, each(x)...)
	}
	return b
}

func leg(l api.Leg) []byte { return laid(l) }

func share(s api.ServiceShare) []byte { return laid(s.Service, s.Nanos) }

// looked is of the kinds 1 to 6.
func (p plain) looked(q question) []byte {
	none := laid(api.ErrEngineNone)
	spans, f := p.trace(q.trace), p.forest(q.trace)
	if len(spans) == 0 || q.root != 0 && !slices.Contains(f.Roots(), q.root) || q.root == 0 && (q.kind == 4 || q.kind == 6) {
		return none
	}
	b := laid(0)
	switch q.kind {
	case 1:
		return append(b, listed(spans, func(s api.Span) []byte {
			one, _ := span.Encode(s)
			return laid(len(one), one)
		})...)
	case 2:
		return append(b, listed(slices.Collect(f.Down()), func(n api.Node) []byte {
			return laid(n.ID, n.Parent, n.Origin, n.Tree, n.Depth, n.Clip.From, n.Clip.To)
		})...)
	case 3:
		return append(b, listed(own.Times(f), func(o api.Own) []byte { return laid(o.ID, o.Total, o.Exclusive, o.Self) })...)
	case 4:
		l, _ := sweep.Path(f, q.root)
		return append(b, listed(l, leg)...)
	case 5:
		return append(b, listed(sweep.Chain(f), func(h api.Hop) []byte { return laid(h.Root, h.From, h.Gap, listed(h.Legs, leg)) })...)
	}
	hung, _ := sweep.Services(f, q.root)
	owned, _ := own.Services(f, q.root)
	return laid(b, listed(hung, share), listed(owned, share))
}

// calls are those of all traces: spans whose parent is another service's.
func (p plain) calls() []api.Call {
	var l []api.Call
	for _, t := range p.traces() {
		f := p.forest(t)
		for n := range f.Down() {
			s, above := p[api.Hit{Trace: t, ID: n.ID}], p[api.Hit{Trace: t, ID: n.Parent}]
			if n.Origin == api.Inner && s.Service != above.Service {
				l = append(l, api.Call{Hour: s.Start / api.Hour, Edge: api.Edge{From: above.Service, To: s.Service}, Failed: s.Status == api.Failed, Took: uint64(s.End - s.Start)})
			}
		}
	}
	return l
}

// edge is the calls of one edge.
type edge struct {
	api.Edge
	failed int
	took   []uint64
}

func (e edge) sum() *big.Int {
	sum := new(big.Int)
	for _, v := range e.took {
		sum.Add(sum, new(big.Int).SetUint64(v))
	}
	return sum
}

func (e edge) bytes() []byte {
	took := uint64(1<<64 - 1)
	if sum := e.sum(); sum.IsUint64() {
		took = sum.Uint64()
	}
	b := laid(e.From, e.To, len(e.took), e.failed, took)
	slices.Sort(e.took)
	for _, part := range []int{50, 95, 99} {
		r := max(1, (part*len(e.took)+99)/100)
		least, greatest, _ := sketch.Span(sketch.Index(e.took[r-1]))
		b = append(b, laid(least, greatest)...)
	}
	return b
}

// edges are those of the calls that began in a range of hours, rising.
func (p plain) edges(from, to int64) []edge {
	all := map[api.Edge]edge{}
	for _, c := range p.calls() {
		if from <= c.Hour && c.Hour < to {
			x := all[c.Edge]
			x.Edge = c.Edge
			x.took = append(x.took, c.Took)
			if c.Failed {
				x.failed++
			}
			all[c.Edge] = x
		}
	}
	return slices.SortedFunc(maps.Values(all), func(a, b edge) int {
		return cmp.Or(strings.Compare(a.From, b.From), strings.Compare(a.To, b.To))
	})
}

// tallied is of the kinds 7 to 9.
func (p plain) tallied(q question, fan int64) []byte {
	if q.from < 0 || q.from > q.to || q.to > 1<<21 {
		return laid(api.ErrRollupHour)
	}
	b := laid(0)
	switch q.kind {
	case 7:
		return append(b, listed(p.edges(q.from, q.to), edge.bytes)...)
	case 8:
		if q.by > 2 || q.most > 1000 {
			return laid(api.ErrArg)
		}
		l := p.edges(q.from, q.to)
		slices.SortStableFunc(l, func(x, y edge) int {
			return []int{cmp.Compare(len(y.took), len(x.took)), cmp.Compare(y.failed, x.failed), y.sum().Cmp(x.sum())}[q.by]
		})
		return append(b, listed(l[:min(len(l), int(q.most))], edge.bytes)...)
	}
	var windows [][]byte
	for from := q.from; from < q.to; {
		hours := int64(1)
		for from%(hours*fan) == 0 && from+hours*fan <= q.to {
			hours *= fan
		}
		windows = append(windows, laid(from, hours, listed(p.edges(from, from+hours), edge.bytes)))
		from += hours
	}
	return append(b, listed(windows, func(w []byte) []byte { return w })...)
}

// listed is of the kind 10.
func (p plain) listed(q question) []byte {
	l := slices.DeleteFunc(p.traces(), func(t api.TraceID) bool { return order(t, q.trace) <= 0 })
	l = l[:min(uint64(len(l)), q.most, 1000)]
	return append(laid(0), listed(l, func(t api.TraceID) []byte { return laid(t, len(p.trace(t))) })...)
}

// hits are what a query finds in all traces.
func (p plain) hits(q api.Query) []api.Hit {
	var l []api.Hit
	for _, t := range p.traces() {
		ids, n := match.Find(q, p.forest(t))
		if n != api.OK {
			panic(n)
		}
		for _, id := range ids {
			l = append(l, api.Hit{Trace: t, ID: id})
		}
	}
	return l
}

// candidates are the traces that have all terms of a plan, and how many spans a search looks at in them.
func (p plain) candidates(q api.Query) (traces, steps int) {
	plan, _ := index.Plan(q)
	for _, t := range p.traces() {
		var terms []api.Term
		for _, s := range p.trace(t) {
			terms = append(terms, index.Terms(s)...)
		}
		if !slices.ContainsFunc(plan, func(x api.Term) bool { return !slices.Contains(terms, x) }) {
			n, _ := match.Steps(q, p.forest(t))
			traces, steps = traces+1, steps+n
		}
	}
	return traces, steps
}

// queried is of the kinds 12 and 13.
func (p plain) queried(q question) []byte {
	tree, err := lang.Parse(q.query)
	var f *api.Fault
	if errors.As(err, &f) {
		return laid(f.Err, f.At)
	}
	traces, steps := p.candidates(tree)
	if q.kind == 13 {
		plan, _ := index.Plan(tree)
		return laid(0, listed(plan, func(x api.Term) []byte { return laid(x.Field, x.Value) }), traces)
	}
	if q.budget > 0 && q.budget < uint64(steps+traces) {
		return laid(api.ErrHaltBudget)
	}
	return append(laid(0), listed(p.hits(tree), func(h api.Hit) []byte { return laid(h.Trace, h.ID) })...)
}

// names are the traces that random spans are of.
var names = []api.TraceID{{Lo: 1}, {Lo: 2}, {Hi: 1}, {Hi: 1, Lo: 1 << 63}, {Hi: 1<<64 - 1, Lo: 3}}

var queries = []string{
	`{}`, `{service = "a"}`, `{service = "b"} > {}`, `{service = "a"} >> {service = "c"}`, `{status = failed}`, `{status = failed} || {kind = client}`,
	`{not service = "a"}`, `{.k = 1}`, `{.k = "x"} ~ {}`, `{.k != 1 and dur > 2}`, `{self > 0} && {orphan = true}`, `{looped = true} | count > 0`,
	`{} | top 1 by dur`, `{} | top 2 by self | sum total > 3`, `{service = "none"}`, `{op =~ "d*"}`, `{depth > 1 and leaf = true}`, `{} > {} > {}`,
	``, `{`, `{a}`, `{dur = "x"}`, `{} | top 0 by dur`, "{\t\"", `{service = "` + strings.Repeat("é", 101) + `"}`, strings.Repeat("(", 51) + "{}" + strings.Repeat(")", 51),
}

// someSpan is a random span, of few names, of which there are many forms.
func someSpan(r *rand.Rand) api.Span {
	pick := func(l ...int64) int64 { return l[r.IntN(len(l))] }
	s := api.Span{Trace: names[r.IntN(len(names))], ID: api.SpanID(1 + r.IntN(7)), Parent: api.SpanID(r.IntN(9))}
	s.Service, s.Op = []string{"a", "b", "c", "é"}[r.IntN(4)], []string{"do", "it", "d"}[r.IntN(3)]
	s.Kind, s.Status = api.Kind(r.IntN(5)), api.Status(r.IntN(3))
	s.Start = pick(0, 0, 0, api.Hour-1, api.Hour, 2*api.Hour, 5*api.Hour, 100*api.Hour) + r.Int64N(9)
	s.End = s.Start + pick(0, 1, 2, 5, 20, 100, api.Hour) + r.Int64N(9)
	if r.IntN(40) == 0 {
		s.End = api.MaxTime
	}
	if r.IntN(40) == 0 {
		s.Start, s.End = api.MaxTime, api.MaxTime
	}
	if r.IntN(3) == 0 {
		s.Attrs = append(s.Attrs, api.Attr{Key: "k", Value: []api.Value{{Kind: api.Int, Int: 1}, {Text: "x"}, {Kind: api.Bool, Int: 1}}[r.IntN(3)]})
	}
	for id := range api.SpanID(8) {
		if id+1 != s.ID && r.IntN(6) == 0 {
			s.Links = append(s.Links, id+1)
		}
	}
	if r.IntN(5) == 0 {
		s.Events = append(s.Events, api.Event{At: r.Int64N(50), Name: "e"})
	}
	return s
}

func someSpans(r *rand.Rand, n int) []api.Span {
	l := make([]api.Span, n)
	for i := range l {
		l[i] = someSpan(r)
	}
	return l
}

// questions are of all kinds, with all that may stand in them, of the random spans' names.
func questions() []question {
	var l []question
	for _, t := range append(slices.Clone(names), api.TraceID{}, lo(9), api.TraceID{Hi: 3}) {
		for _, kind := range []int{1, 2, 3, 5} {
			l = append(l, question{kind: kind, trace: t})
		}
		for _, root := range []api.SpanID{0, 1, 2, 3, 4, 5, 6, 7, 8, 1 << 63} {
			l = append(l, question{kind: 4, trace: t, root: root}, question{kind: 6, trace: t, root: root})
		}
		for _, most := range []uint64{0, 1, 2, 1000, 1001, 1<<64 - 1} {
			l = append(l, question{kind: 10, trace: t, most: most})
		}
	}
	for _, x := range [][2]int64{{0, 0}, {0, 1}, {0, 6}, {1, 3}, {5, 101}, {3, 2}, {-1, 3}, {0, 1 << 21}, {1 << 21, 1 << 21}, {0, 1<<21 + 1}, {7, 1 << 21}, {-1 << 63, 1<<63 - 1}} {
		l = append(l, question{kind: 7, from: x[0], to: x[1]}, question{kind: 9, from: x[0], to: x[1]})
		for _, by := range []uint64{0, 1, 2, 3, 1 << 31, 1 << 32, 1<<64 - 1} {
			for _, most := range []uint64{0, 1, 2, 1000, 1001, 1 << 32, 1 << 63} {
				l = append(l, question{kind: 8, from: x[0], to: x[1], by: by, most: most})
			}
		}
	}
	l = append(l, question{kind: 11})
	for _, s := range queries {
		l = append(l, question{kind: 13, query: s})
		for _, budget := range []uint64{0, 1, 2, 7, 20, 40, 60, 1 << 31, 1 << 32, 1 << 63, 1<<64 - 1} {
			l = append(l, question{kind: 12, query: s, budget: budget})
		}
	}
	return l
}

// few are some of all questions.
func few(r *rand.Rand, n int) []question {
	all := questions()
	r.Shuffle(len(all), func(i, j int) { all[i], all[j] = all[j], all[i] })
	return all[:n]
}

// holds tells whether an engine answers questions as the plain one does.
func (p plain) holds(t *testing.T, what string, ask func([]byte) []byte, fan int64, l []question) {
	t.Helper()
	for _, q := range l {
		if got, want := ask(q.bytes()), p.answer(q, fan); !slices.Equal(got, want) {
			t.Fatalf("%s: %+v: %x, not %x", what, q, got, want)
		}
	}
}
