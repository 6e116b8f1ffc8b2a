package rollup_test

import (
	"bytes"
	"cmp"
	"math/rand/v2"
	"slices"
	"testing"

	"spoor/api"
	"spoor/calls"
	"spoor/rollup"
)

// plain has the tallies of hours alone: all else is summed up from them when it is asked.
type plain struct {
	fan   int64
	hours map[int64]map[api.Edge]api.Tally
}

func newPlain(fan int) plain {
	return plain{fan: int64(fan), hours: map[int64]map[api.Edge]api.Tally{}}
}

func (p plain) put(hour int64, e api.Edge, t api.Tally) {
	sum, _ := calls.Plus(p.hours[hour][e], t)
	p.set(hour, e, sum)
}

func (p plain) take(hour int64, e api.Edge, t api.Tally) api.Errno {
	left, err := calls.Minus(p.hours[hour][e], t)
	if err == api.ErrCallsLess {
		return api.ErrRollupLess
	}
	if err == api.OK {
		p.set(hour, e, left)
	}
	return err
}

func (p plain) set(hour int64, e api.Edge, t api.Tally) {
	if p.hours[hour] == nil {
		p.hours[hour] = map[api.Edge]api.Tally{}
	}
	p.hours[hour][e] = t
}

// sum has the edges of a range.
func (p plain) sum(from, to int64) []api.EdgeTally {
	sums := map[api.Edge]api.Tally{}
	for h, edges := range p.hours {
		if from <= h && h < to {
			for e, t := range edges {
				sums[e], _ = calls.Plus(sums[e], t)
			}
		}
	}
	var l []api.EdgeTally
	for e, t := range sums {
		if t.Calls != (api.Nat{}) || t.Errors != (api.Nat{}) || t.Took != (api.Nat{}) || len(t.Bars) > 0 {
			l = append(l, of(e, t))
		}
	}
	slices.SortFunc(l, func(a, b api.EdgeTally) int {
		if a.Edge.From != b.Edge.From {
			return bytes.Compare([]byte(a.Edge.From), []byte(b.Edge.From))
		}
		return bytes.Compare([]byte(a.Edge.To), []byte(b.Edge.To))
	})
	return l
}

// windows has the windows of a width that have an edge.
func (p plain) windows(wide int64) []api.Window {
	froms := map[int64]int{}
	for h := range p.hours {
		froms[h/wide*wide]++
	}
	var l []api.Window
	for from := range froms {
		if edges := p.sum(from, from+wide); len(edges) > 0 {
			l = append(l, window(from, wide, edges...))
		}
	}
	slices.SortFunc(l, func(a, b api.Window) int { return cmp.Compare(a.From, b.From) })
	return l
}

// widths are those of the levels, each fan times the one ahead.
func (p plain) widths() []int64 {
	l := []int64{1}
	for l[len(l)-1] < ends {
		l = append(l, l[len(l)-1]*p.fan)
	}
	return l
}

func (p plain) cover(from, to int64) []api.Window {
	var l []api.Window
	for from < to {
		wide := int64(1)
		for _, w := range p.widths() {
			if from%w == 0 && from+w <= to {
				wide = w
			}
		}
		l = append(l, window(from, wide, p.sum(from, from+wide)...))
		from += wide
	}
	return l
}

// top has the edges by falling numbers: the greatest one is looked for again and again, the least edge first.
func (p plain) top(from, to int64, by, many int) []api.EdgeTally {
	rest := p.sum(from, to)
	number := func(x api.EdgeTally) api.Nat { return []api.Nat{x.Tally.Calls, x.Tally.Errors, x.Tally.Took}[by] }
	var l []api.EdgeTally
	for len(rest) > 0 && len(l) < many {
		best := 0
		for i, x := range rest {
			n, m := number(x), number(rest[best])
			if n.Hi > m.Hi || n.Hi == m.Hi && n.Lo > m.Lo {
				best = i
			}
		}
		l = append(l, rest[best])
		rest = slices.Delete(rest, best, best+1)
	}
	return l
}

func (p plain) bounds() (int64, int64) {
	l := p.windows(1)
	if len(l) == 0 {
		return 0, 0
	}
	return l[0].From, l[len(l)-1].From + 1
}

func (p plain) see() seen {
	var s seen
	s.first, s.behind = p.bounds()
	for _, w := range p.widths() {
		s.levels = append(s.levels, p.windows(w))
	}
	return s
}

// someHour is one of few, near those at which wide windows begin and end.
func someHour(r *rand.Rand, fan int) int64 {
	at := []int64{0, int64(fan), int64(fan * fan), 7 * int64(fan*fan*fan), 1 << 20, ends - 1, 1281023}
	return min(max(at[r.IntN(len(at))]+r.Int64N(5)-2, 0), ends-1)
}

// someRange begins and ends anywhere, or near those hours.
func someRange(r *rand.Rand, fan int) (int64, int64) {
	a, b := r.Int64N(ends+1), r.Int64N(ends+1)
	if r.IntN(2) == 0 {
		a = someHour(r, fan)
	}
	if r.IntN(2) == 0 {
		b = someHour(r, fan) + 1
	}
	return min(a, b), max(a, b)
}

func someEdge(r *rand.Rand) api.Edge {
	l := []string{"", "a", "ab", "b"}
	return edge(l[r.IntN(4)], l[r.IntN(2)])
}

// someTally has small numbers, of which some are cut soon, if great ones are asked for.
func someTally(r *rand.Rand, great bool) api.Tally {
	number := func() api.Nat {
		switch n := r.IntN(12); {
		case n == 0 && great:
			return greatest
		case n == 1 && great:
			return api.Nat{Hi: most, Lo: r.Uint64()}
		case n < 5:
			return api.Nat{}
		}
		return api.Nat{Lo: r.Uint64N(3)}
	}
	t := api.Tally{Calls: number(), Errors: number(), Took: number()}
	for i := range 3 {
		switch n := r.IntN(8); {
		case n == 0 && great:
			t.Bars = append(t.Bars, api.Bar{Index: i * 900, Count: most - r.Uint64N(2)})
		case n < 3:
			t.Bars = append(t.Bars, api.Bar{Index: i * 900, Count: 1 + r.Uint64N(2)})
		}
	}
	return t
}

// step is a tally that is put to an hour's edge.
type step struct {
	hour  int64
	edge  api.Edge
	tally api.Tally
}

func steps(r *rand.Rand, fan, n int, great bool) []step {
	l := make([]step, n)
	for i := range l {
		l[i] = step{someHour(r, fan), someEdge(r), someTally(r, great)}
	}
	return l
}

func shuffled(r *rand.Rand, l []step) []step {
	l = slices.Clone(l)
	r.Shuffle(len(l), func(i, j int) { l[i], l[j] = l[j], l[i] })
	return l
}

// asked: does every call tell what the hours' tallies tell, summed up?
func asked(t *testing.T, g *rand.Rand, r *rollup.Rollup, p plain) {
	t.Helper()
	from, to := someRange(g, int(p.fan))
	switch g.IntN(5) {
	case 0:
		ranges(t, r, from, to, p.sum(from, to)...)
	case 1:
		covers(t, r, from, to, p.cover(from, to)...)
	case 2:
		widths := p.widths()
		k := g.IntN(len(widths))
		windows(t, r, k, p.windows(widths[k])...)
	case 3:
		by, many := g.IntN(3), g.IntN(10)
		want := p.top(from, to, by, many)
		if l, err := r.Top(from, to, by, many); err != api.OK || !sameEdges(l, want) {
			t.Fatalf("Top by %d: %v, %v, not %v", by, l, err, want)
		}
	case 4:
		first, behind := p.bounds()
		hours(t, r, first, behind)
	}
}

// P15.1: puts, takes and merges in any order, and questions between, are told as the hours' tallies are, summed up when they are asked.
func TestModel(t *testing.T) {
	taken, less := 0, 0
	for fan := 2; fan <= api.MaxFan; fan++ {
		for round := range 12 {
			g := rand.New(rand.NewPCG(uint64(fan), uint64(round)))
			great := round%3 == 0
			r, p := made(t, fan), newPlain(fan)
			var in []step
			for range 60 {
				x := steps(g, fan, 1, great)[0]
				switch n := g.IntN(10); {
				case n < 4:
					put(t, r, x.hour, x.edge, x.tally)
					p.put(x.hour, x.edge, x.tally)
					in = append(in, x)
				case n < 8 && len(in) > 0:
					if i := g.IntN(len(in)); g.IntN(4) > 0 {
						x = in[i]
						in = slices.Delete(in, i, i+1)
					}
					want := p.take(x.hour, x.edge, x.tally)
					if err := r.Take(x.hour, x.edge, x.tally); err != want {
						t.Fatalf("Take: %v, not %v", err, want)
					}
					if want == api.OK {
						taken++
					} else {
						less++
					}
				default:
					asked(t, g, r, p)
				}
			}
			stays(t, "at the end", r, p.see())
			for range 10 {
				asked(t, g, r, p)
			}
		}
	}
	if min(taken, less) < 500 {
		t.Error("few of one kind:", taken, less)
	}
}

// added is the sum of lists of edges, edge by edge.
func added(lists ...[]api.EdgeTally) []api.EdgeTally {
	p := newPlain(2)
	for _, l := range lists {
		for _, x := range l {
			p.put(0, x.Edge, x.Tally)
		}
	}
	return p.sum(0, 1)
}

// P15.2: a range is the sum of those that it is cut into, and of Cover's windows; a window that of those of the level below.
func TestWindowsAreSums(t *testing.T) {
	for fan := 2; fan <= api.MaxFan; fan++ {
		g := rand.New(rand.NewPCG(15, uint64(fan)))
		r := made(t, fan)
		for _, x := range steps(g, fan, 80, true) {
			put(t, r, x.hour, x.edge, x.tally)
		}
		for range 40 {
			from, to := someRange(g, fan)
			cuts := []int64{from, to}
			for range g.IntN(5) {
				cuts = append(cuts, from+g.Int64N(to-from+1))
			}
			slices.Sort(cuts)
			var parts, covered [][]api.EdgeTally
			for i := range len(cuts) - 1 {
				l, _ := r.Range(cuts[i], cuts[i+1])
				parts = append(parts, l)
			}
			cover, _ := r.Cover(from, to)
			for _, w := range cover {
				covered = append(covered, w.Edges)
			}
			ranges(t, r, from, to, added(parts...)...)
			ranges(t, r, from, to, added(covered...)...)
		}
		levels := see(r).levels
		for k, narrow := range levels[:len(levels)-1] {
			for _, w := range levels[k+1] {
				var parts [][]api.EdgeTally
				for _, x := range narrow {
					if w.From <= x.From && x.From < w.From+w.Hours {
						parts = append(parts, x.Edges)
					}
				}
				if !sameEdges(w.Edges, added(parts...)) {
					t.Fatalf("fan %d, level %d: %v, not the sum of %v", fan, k+1, w, parts)
				}
			}
		}
	}
}

// P15.3: what is put in, and taken out again in another order, leaves all as it was.
func TestBack(t *testing.T) {
	for fan := 2; fan <= api.MaxFan; fan++ {
		g := rand.New(rand.NewPCG(16, uint64(fan)))
		r := made(t, fan)
		none := see(r)
		first, second := steps(g, fan, 40, false), steps(g, fan, 60, false)
		for _, x := range first {
			put(t, r, x.hour, x.edge, x.tally)
		}
		before := see(r)
		for _, x := range second {
			put(t, r, x.hour, x.edge, x.tally)
			if g.IntN(5) == 0 {
				r.Range(0, ends)
			}
		}
		for _, x := range shuffled(g, second) {
			take(t, r, x.hour, x.edge, x.tally)
			if g.IntN(5) == 0 {
				r.Range(0, ends)
			}
		}
		stays(t, "back", r, before)
		for _, x := range shuffled(g, first) {
			take(t, r, x.hour, x.edge, x.tally)
		}
		stays(t, "back at nothing", r, none)
	}
}

// P15.4: puts and merges in whatever order, on one or on several, make the same, be numbers cut or not.
func TestOrder(t *testing.T) {
	for fan := 2; fan <= api.MaxFan; fan++ {
		g := rand.New(rand.NewPCG(17, uint64(fan)))
		l := steps(g, fan, 60, fan%2 == 0)
		whole := made(t, fan)
		for _, x := range l {
			put(t, whole, x.hour, x.edge, x.tally)
		}
		want := see(whole)
		for range 4 {
			var several []*rollup.Rollup
			for range 1 + g.IntN(5) {
				several = append(several, made(t, fan))
			}
			for _, x := range shuffled(g, l) {
				put(t, several[g.IntN(len(several))], x.hour, x.edge, x.tally)
				if g.IntN(10) == 0 {
					several[0].Range(0, ends)
				}
			}
			for len(several) > 1 {
				i := g.IntN(len(several) - 1)
				if err := several[i].Merge(several[i+1]); err != api.OK {
					t.Fatal(err)
				}
				several = slices.Delete(several, i+1, i+2)
			}
			stays(t, "in another order", several[0], want)
		}
	}
}

// P15.5: of what is refused nothing is left, be the sums made already or not.
func TestRefused(t *testing.T) {
	for fan := 2; fan <= api.MaxFan; fan++ {
		g := rand.New(rand.NewPCG(18, uint64(fan)))
		r, p, o := made(t, fan), newPlain(fan), made(t, 2+(fan-1)%15)
		put(t, o, 7, ab, times(1))
		for i, x := range steps(g, fan, 40, false) {
			put(t, r, x.hour, x.edge, x.tally)
			p.put(x.hour, x.edge, x.tally)
			bad := x.tally
			bad.Bars = append(slices.Clone(bad.Bars), api.Bar{Index: 1919})
			more := added(p.sum(x.hour, x.hour+1), []api.EdgeTally{of(x.edge, small(1, 1, 1, 5, 1))})
			much := more[slices.IndexFunc(more, func(y api.EdgeTally) bool { return y.Edge == x.edge })].Tally
			for what, pair := range [][2]api.Errno{
				{r.Put(-1-x.hour, x.edge, x.tally), api.ErrRollupHour},
				{r.Put(ends+x.hour, x.edge, x.tally), api.ErrRollupHour},
				{r.Put(x.hour, x.edge, bad), api.ErrSketchBars},
				{r.Take(ends+x.hour, x.edge, x.tally), api.ErrRollupHour},
				{r.Take(x.hour, x.edge, bad), api.ErrSketchBars},
				{r.Take(x.hour, x.edge, much), api.ErrRollupLess},
				{r.Merge(nil), api.ErrArg},
				{r.Merge(o), api.ErrArg},
			} {
				if pair[0] != pair[1] {
					t.Fatalf("%d: %v, not %v", what, pair[0], pair[1])
				}
			}
			if i%4 == 0 {
				stays(t, "refused", r, p.see())
			}
		}
		stays(t, "refused", r, p.see())
	}
}

// P15.6: Cover's windows follow one another from the beginning to the end, each one of its level, as wide as may be; of a level there are few.
func TestCoverIsFew(t *testing.T) {
	for fan := 2; fan <= api.MaxFan; fan++ {
		g := rand.New(rand.NewPCG(19, uint64(fan)))
		r := made(t, fan)
		widths := newPlain(fan).widths()
		for i := range 300 {
			from, to := someRange(g, fan)
			if i < 9 {
				from, to = int64(i%3), ends-int64(i/3)
			}
			l, err := r.Cover(from, to)
			if err != api.OK {
				t.Fatal(err)
			}
			at, many := from, map[int64]int{}
			for _, w := range l {
				if w.From != at || !slices.Contains(widths, w.Hours) || w.From%w.Hours != 0 || w.From+w.Hours > to {
					t.Fatalf("fan %d, from %d to %d: %v at %d", fan, from, to, w, at)
				}
				if wider := w.Hours * int64(fan); w.From%wider == 0 && w.From+wider <= to {
					t.Fatalf("fan %d, from %d to %d: %v is not the widest", fan, from, to, w)
				}
				if many[w.Hours]++; many[w.Hours] > 2*(fan-1) {
					t.Fatalf("fan %d, from %d to %d: too many of %d hours", fan, from, to, w.Hours)
				}
				at += w.Hours
			}
			if at != to {
				t.Fatalf("fan %d, from %d to %d: it ends at %d", fan, from, to, at)
			}
		}
	}
}
