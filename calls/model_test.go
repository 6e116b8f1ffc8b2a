package calls_test

import (
	"cmp"
	"math/big"
	"math/rand/v2"
	"slices"
	"testing"

	"spoor/api"
	"spoor/calls"
	"spoor/sketch"
)

// edge is a natural number near one of those at which something changes.
func edge(r *rand.Rand) api.Nat {
	ends := []api.Nat{{}, {Lo: most}, {Hi: 1}, {Hi: 1, Lo: most}, {Hi: 1 << 63}, {Hi: most}, greatest, {Hi: r.Uint64(), Lo: r.Uint64()}}
	n := ends[r.IntN(len(ends))]
	if off := r.Uint64N(4); r.IntN(2) == 0 && n.Lo <= most-off {
		n.Lo += off
	} else if n.Lo >= off {
		n.Lo -= off
	}
	return n
}

// drawn is a tally with few bars in few places, so that two of them meet often; some numbers are great.
func drawn(r *rand.Rand) api.Tally {
	few := func() api.Nat { return api.Nat{Lo: r.Uint64N(5)} }
	t := api.Tally{Calls: few(), Errors: few(), Took: few()}
	for _, n := range []*api.Nat{&t.Calls, &t.Errors, &t.Took} {
		if r.IntN(2) == 0 {
			*n = edge(r)
		}
	}
	for i := range 6 {
		switch r.IntN(6) {
		case 0, 1:
			t.Bars = append(t.Bars, api.Bar{Index: i * 383, Count: 1 + r.Uint64N(4)})
		case 2:
			t.Bars = append(t.Bars, api.Bar{Index: i * 383, Count: most - r.Uint64N(3)})
		}
	}
	return t
}

// beside is a second tally near the first one: here and there a little less or more.
func beside(r *rand.Rand, a api.Tally) api.Tally {
	if r.IntN(4) == 0 {
		return drawn(r)
	}
	b := api.Tally{Calls: a.Calls, Errors: a.Errors, Took: a.Took, Bars: slices.Clone(a.Bars)}
	for _, n := range []*api.Nat{&b.Calls, &b.Errors, &b.Took} {
		switch r.IntN(12) {
		case 0:
			*n = edge(r)
		case 1:
			n.Lo++
		case 2, 3:
			n.Lo -= min(n.Lo, 1)
		case 4:
			n.Hi -= min(n.Hi, 1)
		case 5:
			n.Hi -= min(n.Hi, 1)
			n.Lo = most
		}
	}
	for i := range b.Bars {
		switch r.IntN(6) {
		case 0:
			b.Bars[i].Count = 1 + r.Uint64N(b.Bars[i].Count)
		case 1:
			b.Bars[i].Index++
		case 2:
			b.Bars[i].Count = max(1, b.Bars[i].Count-1)
		}
	}
	b.Bars = slices.CompactFunc(b.Bars, func(x, y api.Bar) bool { return x.Index >= y.Index })
	return b
}

func number(v uint64) *big.Int { return new(big.Int).SetUint64(v) }

// wide is a number without bounds; nat cuts it to the greatest.
func wide(n api.Nat) *big.Int {
	return new(big.Int).Add(new(big.Int).Lsh(number(n.Hi), 64), number(n.Lo))
}

func nat(n *big.Int) api.Nat {
	if n.BitLen() > 128 {
		return greatest
	}
	return api.Nat{Hi: new(big.Int).Rsh(n, 64).Uint64(), Lo: new(big.Int).And(n, number(most)).Uint64()}
}

// plain is a tally as numbers without bounds: the three, and behind them one of each bar.
func plain(t api.Tally) []*big.Int {
	l := []*big.Int{wide(t.Calls), wide(t.Errors), wide(t.Took)}
	for range api.MaxBars {
		l = append(l, new(big.Int))
	}
	for _, b := range t.Bars {
		l[3+b.Index] = number(b.Count)
	}
	return l
}

// tallied is the tally of such numbers.
func tallied(l []*big.Int) api.Tally {
	t := api.Tally{Calls: nat(l[0]), Errors: nat(l[1]), Took: nat(l[2])}
	for i, n := range l[3:] {
		if !n.IsUint64() {
			n = number(most)
		}
		if n.Sign() > 0 {
			t.Bars = append(t.Bars, api.Bar{Index: i, Count: n.Uint64()})
		}
	}
	return t
}

// plainSum puts numbers together, the second ones by a sign of 1 or -1; false, where one falls below 0.
func plainSum(a, b api.Tally, sign int64) ([]*big.Int, bool) {
	l := plain(a)
	enough := true
	for i, n := range plain(b) {
		l[i].Add(l[i], n.Mul(n, big.NewInt(sign)))
		enough = enough && l[i].Sign() >= 0
	}
	return l, enough
}

// full tells whether a number of a tally has come to its greatest one.
func full(t api.Tally) bool {
	return t.Calls == greatest || t.Errors == greatest || t.Took == greatest || slices.ContainsFunc(t.Bars, func(b api.Bar) bool { return b.Count == most })
}

// Plus, Minus and Cap tell what numbers without bounds tell, cut to the greatest.
func TestModelOfTallies(t *testing.T) {
	r := rand.New(rand.NewPCG(14, 1))
	cut, taken, less := 0, 0, 0
	for range 2000 {
		a := drawn(r)
		b := beside(r, a)
		sum, _ := plainSum(a, b, 1)
		got, e := calls.Plus(a, b)
		tells(t, "Plus", got, e, tallied(sum))
		if full(got) {
			cut++
		}
		got, e = calls.Minus(a, b)
		if left, enough := plainSum(a, b, -1); enough {
			tells(t, "Minus", got, e, tallied(left))
			taken++
		} else {
			refused(t, "Minus", got, e, api.ErrCallsLess)
			less++
		}
		want := wide(a.Took)
		if !want.IsUint64() {
			want = number(most)
		}
		if got := calls.Cap(a.Took); got != want.Uint64() {
			t.Fatalf("Cap of %v is %d", a.Took, got)
		}
	}
	if min(cut, taken, less) < 200 {
		t.Error("few of one kind:", cut, taken, less)
	}
}

// P14.1: Plus asks neither for the order nor for which two come first, be numbers cut or not; the empty one changes nothing.
func TestPlusInAnyOrder(t *testing.T) {
	r := rand.New(rand.NewPCG(14, 2))
	cut := 0
	for range 10000 {
		a := drawn(r)
		b, c := beside(r, a), beside(r, a)
		ab, e := calls.Plus(a, b)
		ba, e2 := calls.Plus(b, a)
		tells(t, "Plus the other way", ba, e2, ab)
		bc, e3 := calls.Plus(b, c)
		left, e4 := calls.Plus(ab, c)
		right, e5 := calls.Plus(a, bc)
		tells(t, "Plus of three", right, e5, left)
		if e != api.OK || e3 != api.OK || e4 != api.OK {
			t.Fatal(e, e3, e4)
		}
		for _, none := range []api.Tally{{}, {Bars: []api.Bar{}}} {
			s, e := calls.Plus(a, none)
			tells(t, "Plus with nothing", s, e, a)
			s, e = calls.Plus(none, a)
			tells(t, "Plus of nothing", s, e, a)
			s, e = calls.Minus(a, none)
			tells(t, "Minus of nothing", s, e, a)
		}
		if full(left) {
			cut++
		}
	}
	if cut < 1000 {
		t.Error("few that were cut:", cut)
	}
}

// P14.2: what was put to a tally can be taken from it again, where no number has come to its greatest one.
func TestThereAndBack(t *testing.T) {
	r := rand.New(rand.NewPCG(14, 3))
	whole := 0
	for range 20000 {
		a := drawn(r)
		b := beside(r, a)
		both, _ := calls.Plus(a, b)
		if full(both) {
			continue
		}
		whole++
		s, e := calls.Minus(both, b)
		tells(t, "Minus by the second one", s, e, a)
		s, e = calls.Minus(both, a)
		tells(t, "Minus by the first one", s, e, b)
		s, e = calls.Minus(both, both)
		tells(t, "Minus by itself", s, e, api.Tally{})
	}
	if whole < 1000 {
		t.Error("few that were not cut:", whole)
	}
}

// some has calls of which many are the same, or almost.
func some(r *rand.Rand, n int) []api.Call {
	took := []uint64{0, 1, 2, 64, 65, most - 1, most}
	var l []api.Call
	for range n {
		l = append(l, call(r.Int64N(3)-1, []string{"", "a", "ab", "b"}[r.IntN(4)], []string{"a", "b"}[r.IntN(2)], r.IntN(2) == 0, took[r.IntN(len(took))]))
	}
	return l
}

// near has the calls in another order, some of them gone, some twice, some new.
func near(r *rand.Rand, l []api.Call) []api.Call {
	var out []api.Call
	for _, c := range l {
		for range []int{0, 1, 1, 1, 1, 2}[r.IntN(6)] {
			out = append(out, c)
		}
	}
	out = append(out, some(r, r.IntN(4))...)
	shuffle(r, out)
	return out
}

func shuffle(r *rand.Rand, l []api.Call) {
	r.Shuffle(len(l), func(i, j int) { l[i], l[j] = l[j], l[i] })
}

// compare is the chapter's order, part by part.
func compare(x, y api.Call) int {
	switch {
	case x.Hour != y.Hour:
		return cmp.Compare(x.Hour, y.Hour)
	case x.Edge.From != y.Edge.From:
		return slices.Compare([]byte(x.Edge.From), []byte(y.Edge.From))
	case x.Edge.To != y.Edge.To:
		return slices.Compare([]byte(x.Edge.To), []byte(y.Edge.To))
	case x.Failed && !y.Failed:
		return 1
	case !x.Failed && y.Failed:
		return -1
	}
	return cmp.Compare(x.Took, y.Took)
}

// moreOften has what a has more often than b, by counting.
func moreOften(a, b []api.Call) []api.Call {
	n := map[api.Call]int{}
	for _, c := range a {
		n[c]++
	}
	for _, c := range b {
		n[c]--
	}
	var l []api.Call
	for c, times := range n {
		for range times {
			l = append(l, c)
		}
	}
	slices.SortFunc(l, compare)
	return l
}

// total is the sum of One of all calls.
func total(t *testing.T, l []api.Call) api.Tally {
	t.Helper()
	var sum api.Tally
	for _, c := range l {
		var e api.Errno
		if sum, e = calls.Plus(sum, calls.One(c)); e != api.OK {
			t.Fatal(e)
		}
	}
	return sum
}

// P14.3: Delta's lists are what one has more often than the other, and change the tally of the first one into that of the second one, without a refusal.
func TestModelOfDelta(t *testing.T) {
	r := rand.New(rand.NewPCG(14, 4))
	for range 1000 {
		a := some(r, r.IntN(25))
		b := near(r, a)
		take, put := calls.Delta(a, b)
		lists(t, "to be taken", take, moreOften(a, b)...)
		lists(t, "to be put", put, moreOften(b, a)...)
		sum := total(t, a)
		for _, c := range take {
			var e api.Errno
			if sum, e = calls.Minus(sum, calls.One(c)); e != api.OK {
				t.Fatalf("%v cannot be taken: %v", c, e)
			}
		}
		for _, c := range put {
			sum, _ = calls.Plus(sum, calls.One(c))
		}
		tells(t, "the sum", sum, api.OK, total(t, b))
	}
}

// P14.3: of a list and itself, in whatever order, Delta is none and none; and it asks for no order.
func TestDeltaAsksForNoOrder(t *testing.T) {
	r := rand.New(rand.NewPCG(14, 5))
	for range 1000 {
		a := some(r, r.IntN(40))
		b := near(r, a)
		take, put := calls.Delta(a, b)
		turned := slices.Clone(a)
		shuffle(r, turned)
		deltas(t, a, turned, nil, nil)
		deltas(t, turned, b, take, put)
		shuffle(r, b)
		deltas(t, a, b, take, put)
		deltas(t, b, a, put, take)
	}
}

// Long lists of few calls, and of many, end soon.
func TestLongLists(t *testing.T) {
	few := make([]api.Call, 200000)
	many := make([]api.Call, 200000)
	for i := range many {
		many[i] = call(0, "a", "b", false, uint64(len(many)-i))
	}
	deltas(t, few, few[1:], few[:1], nil)
	take, put := calls.Delta(many, few)
	slices.Reverse(many)
	lists(t, "to be taken", take, many...)
	lists(t, "to be put", put, few...)
}

// trace has spans of few services; their parents are there or not, and name one another in rings too.
func trace(r *rand.Rand) []api.Span {
	n := 1 + r.IntN(12)
	var l []api.Span
	for i := range n {
		start := r.Int64N(4)*api.Hour + r.Int64N(3) - 1
		s := spanned(api.SpanID(1+i), api.SpanID(r.IntN(n+3)), []string{"a", "b", "ab"}[r.IntN(3)], max(start, 0), max(start, 0)+r.Int64N(3*api.Hour))
		s.Status = api.Status(r.IntN(3))
		l = append(l, s)
	}
	r.Shuffle(len(l), func(i, j int) { l[i], l[j] = l[j], l[i] })
	return l
}

// ring has the spans that are come by from a span on, up to itself again; none, if it is in no ring.
func ring(of map[api.SpanID]api.Span, id api.SpanID) []api.SpanID {
	l := []api.SpanID{id}
	for range of {
		next, there := of[of[l[len(l)-1]].Parent]
		switch {
		case !there:
			return nil
		case next.ID == id:
			return l
		}
		l = append(l, next.ID)
	}
	return nil
}

// plainOf has the calls of a trace by the chapters' words, and how many spans were not counted, as they are roots or their parents' services are theirs.
func plainOf(l []api.Span) ([]api.Call, int) {
	of := map[api.SpanID]api.Span{}
	for _, s := range l {
		of[s.ID] = s
	}
	var out []api.Call
	for id := api.SpanID(1); int(id) <= len(l); id++ {
		s := of[id]
		above, there := of[s.Parent]
		looped := ring(of, id)
		if !there || len(looped) > 0 && slices.Min(looped) == id || above.Service == s.Service {
			continue
		}
		hour := int64(0)
		for (hour+1)*api.Hour <= s.Start {
			hour++
		}
		out = append(out, call(hour, above.Service, s.Service, s.Status == api.Failed, uint64(s.End-s.Start)))
	}
	return out, len(l) - len(out)
}

// P14.4: Of tells the calls that there are by the chapters' words, and their sum is what was counted one by one.
func TestModelOfOf(t *testing.T) {
	r := rand.New(rand.NewPCG(14, 6))
	counted, others := 0, 0
	for range 5000 {
		l := trace(r)
		want, rest := plainOf(l)
		got := calls.Of(built(t, l...))
		lists(t, "Of", got, want...)
		var errors, took uint64
		var bars []api.Bar
		for _, c := range want {
			if c.Failed {
				errors++
			}
			took += c.Took
			bars, _ = sketch.Add(bars, c.Took, 1)
		}
		sum := small(uint64(len(want)), errors, took)
		sum.Bars = bars
		tells(t, "the sum", total(t, got), api.OK, sum)
		counted, others = counted+len(want), others+rest
	}
	if min(counted, others) < 5000 {
		t.Error("few of one kind:", counted, others)
	}
}

// P14.4: the sum is the same, whatever the Clips are: a root that is moved changes no call beneath it.
func TestClipsDoNotCount(t *testing.T) {
	r := rand.New(rand.NewPCG(14, 7))
	for range 1000 {
		l := trace(r)
		want := calls.Of(built(t, l...))
		f := built(t, l...)
		for i, s := range l {
			if n, _ := f.Node(s.ID); n.Origin != api.Inner {
				l[i].Start, l[i].End = 100*api.Hour, 100*api.Hour+r.Int64N(2)
			}
		}
		lists(t, "moved", calls.Of(built(t, l...)), want...)
	}
}

// A trace as great as may be, a chain and a star.
func TestGreatTraces(t *testing.T) {
	chain, star := []api.Span{spanned(1, 0, "a", 0, 5)}, []api.Span{spanned(1, 0, "a", 0, 5)}
	var fromChain, fromStar []api.Call
	for id := api.SpanID(2); id <= api.MaxTrace; id++ {
		from, to := []string{"a", "b"}[id%2], []string{"a", "b"}[(id+1)%2]
		chain = append(chain, spanned(id, id-1, to, int64(id), 2000))
		fromChain = append(fromChain, call(0, from, to, false, 2000-uint64(id)))
		star = append(star, failed(spanned(id, 1, "c", int64(id), 2000)))
		fromStar = append(fromStar, call(0, "a", "c", true, 2000-uint64(id)))
	}
	lists(t, "a chain", calls.Of(built(t, chain...)), fromChain...)
	lists(t, "a star", calls.Of(built(t, star...)), fromStar...)
}
