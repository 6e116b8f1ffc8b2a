package sketch_test

import (
	"math/big"
	"math/rand/v2"
	"slices"
	"strconv"
	"strings"
	"testing"

	"spoor/api"
	"spoor/sketch"
)

// plainIndex is the chapter's words, asked of the value's digits.
func plainIndex(v uint64) int {
	if v < 64 {
		return int(v)
	}
	digits := strconv.FormatUint(v, 2)
	f, _ := strconv.ParseInt(digits[1:6], 2, 64)
	return 64 + 32*(len(digits)-1-6) + int(f)
}

// plainSpan writes the digits of a bar's least and greatest value.
func plainSpan(i int) (uint64, uint64) {
	if i < 64 {
		return uint64(i), uint64(i)
	}
	e, f := 6+(i-64)/32, (i-64)%32
	digits := "1" + strconv.FormatInt(int64(32+f), 2)[1:]
	least, _ := strconv.ParseUint(digits+strings.Repeat("0", e-5), 2, 64)
	greatest, _ := strconv.ParseUint(digits+strings.Repeat("1", e-5), 2, 64)
	return least, greatest
}

// values has numbers of all sizes: all small ones, those beside powers of two and beside the ends of bars, drawn ones.
func values() []uint64 {
	var l []uint64
	for v := range uint64(5000) {
		l = append(l, v)
	}
	for bit := range 64 {
		for off := range uint64(5) {
			l = append(l, 1<<bit+off-2, 33<<bit+off-2, 63<<bit+off-2)
		}
	}
	r := rand.New(rand.NewPCG(13, 1))
	for range 20000 {
		l = append(l, r.Uint64()>>r.IntN(64))
	}
	return append(l, most, most-1, most-1<<58, most-1<<58+1)
}

// P13.1: each value's bar is the one of the chapter's words, and Span of it holds the value.
func TestEachValue(t *testing.T) {
	for _, v := range values() {
		i := sketch.Index(v)
		least, greatest, e := sketch.Span(i)
		if i != plainIndex(v) || e != api.OK || v < least || v > greatest {
			t.Fatalf("%d is in %d, not %d: %d to %d, %v", v, i, plainIndex(v), least, greatest, e)
		}
	}
}

// P13.1: the bars follow one another from 0 to 2^64 - 1, without a gap, each value of one has its Index, and none is wider than the thirty-second part of its least value.
func TestEachBar(t *testing.T) {
	r := rand.New(rand.NewPCG(13, 2))
	next := uint64(0)
	for i := range api.MaxBars {
		least, greatest, e := sketch.Span(i)
		a, b := plainSpan(i)
		if e != api.OK || least != a || greatest != b || least != next || greatest < least {
			t.Fatalf("Span of %d is %d, %d, %v, not %d, %d, from %d on", i, least, greatest, e, a, b, next)
		}
		if i < 64 && greatest != least || i >= 64 && greatest-least > least/32 {
			t.Fatalf("the bar %d is too wide: %d to %d", i, least, greatest)
		}
		held := []uint64{least, greatest, least + (greatest-least)/2}
		for range 20 {
			held = append(held, least+r.Uint64N(greatest-least+1))
		}
		for _, v := range held {
			if sketch.Index(v) != i {
				t.Fatalf("%d is in the bar %d, not in %d", v, sketch.Index(v), i)
			}
		}
		next = greatest + 1
	}
	if next != 0 {
		t.Error("the last bar ends at", next-1)
	}
}

// drawn has a sketch whose bars stand in few places, so that two of them meet often; some Counts are great.
func drawn(r *rand.Rand) []api.Bar {
	from, step := r.IntN(200)*9, 1+r.IntN(9)
	var l []api.Bar
	for i := range 12 {
		if r.IntN(2) == 0 {
			l = append(l, api.Bar{Index: from + i*step, Count: 1 + r.Uint64()>>(1+r.IntN(63))})
		}
		if n := len(l); n > 0 && r.IntN(20) == 0 {
			l[n-1].Count = most - r.Uint64N(3)
		}
	}
	return l
}

// beside has a second sketch near the first one: of some of its bars, and of others.
func beside(r *rand.Rand, a []api.Bar) []api.Bar {
	if r.IntN(4) == 0 {
		return drawn(r)
	}
	l := slices.Clone(a)
	for i := range l {
		switch r.IntN(4) {
		case 0:
			l[i].Count = 1 + r.Uint64N(l[i].Count)
		case 1:
			l[i].Index = min(l[i].Index+1, 1919)
		case 2:
			l[i].Count = max(1, l[i].Count-1)
		}
	}
	return slices.CompactFunc(l, func(x, y api.Bar) bool { return x.Index == y.Index })
}

// plain is a sketch as what each bar has.
func plain(l []api.Bar) map[int]*big.Int {
	m := map[int]*big.Int{}
	for _, b := range l {
		m[b.Index] = number(b.Count)
	}
	return m
}

func number(v uint64) *big.Int { return new(big.Int).SetUint64(v) }

// sketched is what each bar has as a sketch, and whether a Count was cut.
func sketched(m map[int]*big.Int) ([]api.Bar, bool) {
	var l []api.Bar
	cut := false
	for i := range api.MaxBars {
		n := m[i]
		if n == nil || n.Sign() == 0 {
			continue
		}
		if !n.IsUint64() {
			n, cut = number(most), true
		}
		l = append(l, api.Bar{Index: i, Count: n.Uint64()})
	}
	return l, cut
}

func has(m map[int]*big.Int, i int) *big.Int {
	if n := m[i]; n != nil {
		return n
	}
	return new(big.Int)
}

// plainSum is of each bar both Counts together, by sign: 1 or -1 for the second one; false, where one falls below 0.
func plainSum(a, b []api.Bar, sign int64) (map[int]*big.Int, bool) {
	m, other := plain(a), plain(b)
	for i, n := range other {
		m[i] = new(big.Int).Add(has(m, i), new(big.Int).Mul(n, big.NewInt(sign)))
		if m[i].Sign() < 0 {
			return nil, false
		}
	}
	return m, true
}

// Add, Merge, Less and Count tell what numbers without bounds tell, cut to the greatest; P13.5: it may be.
func TestModelOfSums(t *testing.T) {
	r := rand.New(rand.NewPCG(13, 3))
	cuts, lesses, refusals := 0, 0, 0
	for range 20000 {
		a := drawn(r)
		b := beside(r, a)
		m, _ := plainSum(a, b, 1)
		want, cut := sketched(m)
		got, e := sketch.Merge(a, b)
		tells(t, "Merge", got, e, want)
		if cut {
			cuts++
		}
		got, e = sketch.Less(a, b)
		if m, enough := plainSum(a, b, -1); enough {
			want, _ = sketched(m)
			tells(t, "Less", got, e, want)
			lesses++
		} else {
			refused(t, "Less", got, e, api.ErrSketchLess)
			refusals++
		}
		v, times := r.Uint64()>>r.IntN(64), r.Uint64()>>r.IntN(64)
		if len(a) > 0 && r.IntN(2) == 0 {
			v, _, _ = sketch.Span(a[r.IntN(len(a))].Index)
		}
		m = plain(a)
		m[plainIndex(v)] = new(big.Int).Add(has(m, plainIndex(v)), number(times))
		want, _ = sketched(m)
		got, e = sketch.Add(a, v, times)
		tells(t, "Add", got, e, want)
		n, e := sketch.Count(a)
		if e != api.OK || wide(n).Cmp(total(a)) != 0 {
			t.Fatalf("Count of %v is %v, %v", a, n, e)
		}
	}
	if cuts < 1000 || lesses < 1000 || refusals < 1000 {
		t.Error("few of one kind:", cuts, lesses, refusals)
	}
}

func wide(n api.Nat) *big.Int {
	return new(big.Int).Add(new(big.Int).Lsh(number(n.Hi), 64), number(n.Lo))
}

func total(l []api.Bar) *big.Int {
	sum := new(big.Int)
	for _, b := range l {
		sum.Add(sum, number(b.Count))
	}
	return sum
}

// P13.2: Merge asks neither for the order nor for which two come first, be Counts cut or not; nothing changes nothing.
func TestMergeInAnyOrder(t *testing.T) {
	r := rand.New(rand.NewPCG(13, 4))
	cut := 0
	for range 10000 {
		a := drawn(r)
		b, c := beside(r, a), beside(r, a)
		ab, e := sketch.Merge(a, b)
		ba, e2 := sketch.Merge(b, a)
		tells(t, "Merge the other way", ba, e2, ab)
		bc, e3 := sketch.Merge(b, c)
		left, e4 := sketch.Merge(ab, c)
		right, e5 := sketch.Merge(a, bc)
		tells(t, "Merge of three", right, e5, left)
		if e != api.OK || e3 != api.OK || e4 != api.OK {
			t.Fatal(e, e3, e4)
		}
		for _, none := range [][]api.Bar{nil, {}} {
			l, e := sketch.Merge(a, none)
			tells(t, "Merge with nothing", l, e, a)
			l, e = sketch.Merge(none, a)
			tells(t, "Merge of nothing", l, e, a)
		}
		if slices.ContainsFunc(left, func(x api.Bar) bool { return x.Count == most }) {
			cut++
		}
	}
	if cut < 1000 {
		t.Error("few that were cut:", cut)
	}
}

// put has values put into a sketch, one by one.
func put(t *testing.T, l []api.Bar, values ...uint64) []api.Bar {
	for _, v := range values {
		var e api.Errno
		if l, e = sketch.Add(l, v, 1); e != api.OK || sketch.Check(l) != api.OK {
			t.Fatalf("Add of %d is %v, %v", v, l, e)
		}
	}
	return l
}

// some has values of one size or of many, the same ones several times.
func some(r *rand.Rand, n int) []uint64 {
	shift, spread := r.IntN(60), 1+r.IntN(4)
	var l []uint64
	for i := range n {
		v := r.Uint64() >> min(63, shift+r.IntN(spread))
		if i > 0 && r.IntN(4) == 0 {
			v = l[r.IntN(i)]
		}
		l = append(l, v)
	}
	return l
}

// P13.2: values in whatever order make one sketch, which is the Merge of those of their parts.
func TestPartsOfValues(t *testing.T) {
	r := rand.New(rand.NewPCG(13, 5))
	for range 300 {
		l := some(r, 1+r.IntN(60))
		all := put(t, nil, l...)
		counted(t, all, api.Nat{Lo: uint64(len(l))})
		r.Shuffle(len(l), func(i, j int) { l[i], l[j] = l[j], l[i] })
		if again := put(t, nil, l...); !same(again, all) {
			t.Fatalf("%v make %v and %v", l, all, again)
		}
		var parts []api.Bar
		for rest := l; len(rest) > 0; {
			n := 1 + r.IntN(len(rest))
			var e api.Errno
			if parts, e = sketch.Merge(put(t, nil, rest[:n]...), parts); e != api.OK {
				t.Fatal(e)
			}
			rest = rest[n:]
		}
		if !same(parts, all) {
			t.Fatalf("of %v the parts make %v, not %v", l, parts, all)
		}
		many, e := sketch.Add(nil, l[0], 5)
		tells(t, "five times", many, e, put(t, nil, l[0], l[0], l[0], l[0], l[0]))
	}
}

// P13.3: what is merged can be taken again, where no Count went to the greatest.
func TestTakenAgain(t *testing.T) {
	r := rand.New(rand.NewPCG(13, 6))
	whole := 0
	for range 10000 {
		a := drawn(r)
		b := beside(r, a)
		both, _ := sketch.Merge(a, b)
		if slices.ContainsFunc(both, func(x api.Bar) bool { return x.Count == most }) {
			continue
		}
		whole++
		l, e := sketch.Less(both, b)
		tells(t, "Less by the second one", l, e, a)
		l, e = sketch.Less(both, a)
		tells(t, "Less by the first one", l, e, b)
		l, e = sketch.Less(both, both)
		tells(t, "Less by itself", l, e, nil)
		l, e = sketch.Less(both, nil)
		tells(t, "Less by nothing", l, e, both)
	}
	if whole < 2000 {
		t.Error("few that were not cut:", whole)
	}
}

// plainRank is r as the chapter's words have it: numbers are tried from num N / den, rounded down, on.
func plainRank(n *big.Int, num, den uint64) *big.Int {
	product := new(big.Int).Mul(n, number(num))
	r := new(big.Int).Div(product, number(den))
	for r.Sign() == 0 || new(big.Int).Mul(r, number(den)).Cmp(product) < 0 {
		r.Add(r, big.NewInt(1))
	}
	return r
}

func ratio(r *rand.Rand) (uint64, uint64) {
	den := []uint64{1, 2, 3, 4, 10, 100, 1000, 999983, 999999, 1000000, 1 + r.Uint64N(1000000)}[r.IntN(11)]
	return []uint64{0, 1, den / 2, den - 1, den, r.Uint64N(den + 1)}[r.IntN(6)], den
}

// P13.4: of values put in one by one the r-th one is between the two numbers, which are those of its bar.
func TestTheRightOne(t *testing.T) {
	r := rand.New(rand.NewPCG(13, 7))
	for range 300 {
		l := some(r, 1+r.IntN(60))
		all := put(t, nil, l...)
		slices.Sort(l)
		for range 30 {
			num, den := ratio(r)
			v := l[plainRank(big.NewInt(int64(len(l))), num, den).Int64()-1]
			least, greatest, e := sketch.Quantile(all, num, den)
			if a, b := plainSpan(plainIndex(v)); e != api.OK || least != a || greatest != b || v < least || v > greatest {
				t.Fatalf("Quantile(%d, %d) of %v is %d, %d, %v: %d is not there", num, den, l, least, greatest, e, v)
			}
		}
		_, middle, _ := sketch.Quantile(all, 1, 2)
		notAbove := 0
		for _, v := range l {
			if v <= middle {
				notAbove++
			}
		}
		if 2*notAbove < len(l) {
			t.Fatalf("%d of %v are not above %d", notAbove, l, middle)
		}
	}
}

// The same of great Counts, whose sums and products go beyond 64 bits.
func TestTheRightOneOfMany(t *testing.T) {
	r := rand.New(rand.NewPCG(13, 8))
	for range 20000 {
		l := drawn(r)
		if len(l) == 0 {
			continue
		}
		num, den := ratio(r)
		left := plainRank(total(l), num, den)
		at := -1
		for left.Sign() > 0 {
			at++
			left.Sub(left, number(l[at].Count))
		}
		least, greatest := plainSpan(l[at].Index)
		between(t, l, num, den, least, greatest)
	}
}

// edged has a sketch in which num N / den falls just on the last value of a bar, or just beside it.
func edged(r *rand.Rand, num, den uint64) []api.Bar {
	unit := most/den - r.Uint64N(3)
	first, second := unit*num, unit*(den-num)
	if off := r.Uint64N(3); first > off && r.IntN(2) == 0 {
		first, second = first-off, second+off
	} else if second > off {
		first, second = first+off, second-off
	}
	var l []api.Bar
	for i, n := range []uint64{first, second} {
		if n > 0 {
			l = append(l, api.Bar{Index: 20 + i, Count: n})
		}
	}
	return l
}

// r is exact: at the last value of a bar and one beside it, where a rounded sum would miss.
func TestExactly(t *testing.T) {
	r := rand.New(rand.NewPCG(13, 9))
	kinds := [2]int{}
	for range 20000 {
		num, den := ratio(r)
		l := edged(r, num, den)
		at := 0
		if plainRank(total(l), num, den).Cmp(number(l[0].Count)) > 0 {
			at = 1
		}
		kinds[at]++
		least, greatest := plainSpan(l[at].Index)
		between(t, l, num, den, least, greatest)
	}
	if min(kinds[0], kinds[1]) < 2000 {
		t.Error("few of one kind:", kinds)
	}
}

// P13.4: Quantile never falls as num rises, and goes from the first bar to the last one.
func TestNeverFalls(t *testing.T) {
	r := rand.New(rand.NewPCG(13, 10))
	for range 200 {
		l := drawn(r)
		if len(l) == 0 {
			continue
		}
		den := 1 + r.Uint64N(500)
		last := uint64(0)
		for num := range den + 1 {
			least, greatest, e := sketch.Quantile(l, num, den)
			if e != api.OK || least < last || greatest < least {
				t.Fatalf("Quantile(%d, %d) of %v is %d, %d, %v, behind %d", num, den, l, least, greatest, e, last)
			}
			last = least
		}
		least, greatest := plainSpan(l[0].Index)
		between(t, l, 0, den, least, greatest)
		least, greatest = plainSpan(l[len(l)-1].Index)
		between(t, l, den, den, least, greatest)
	}
}
