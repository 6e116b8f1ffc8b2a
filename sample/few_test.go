package sample_test

import (
	"cmp"
	"math"
	"math/big"
	"math/rand/v2"
	"slices"
	"testing"

	"spoor/api"
	"spoor/sample"
)

func few(t *testing.T, most int) *sample.Few {
	t.Helper()
	f, e := sample.NewFew(most)
	if f == nil || e != api.OK {
		t.Fatalf("NewFew(%d): %v, %v", most, f, e)
	}
	return f
}

// filled is one that has some mixes, each of another Lo.
func filled(t *testing.T, most int, mixes ...uint64) *sample.Few {
	t.Helper()
	f := few(t, most)
	for i, m := range mixes {
		f.Put(mixed(m, uint64(i)*3))
	}
	return f
}

// plainFew is the chapter's words: a set of all that was put in, of which the first in the order are told.
type plainFew struct {
	most int
	set  map[api.TraceID]int
}

func newPlain(most int) plainFew { return plainFew{most, map[api.TraceID]int{}} }

func (p plainFew) traces() []api.TraceID {
	var l []api.TraceID
	for t := range p.set {
		l = append(l, t)
	}
	slices.SortFunc(l, func(a, b api.TraceID) int {
		if n := cmp.Compare(sample.Mix(a), sample.Mix(b)); n != 0 {
			return n
		}
		if a.Hi != b.Hi {
			return cmp.Compare(a.Hi, b.Hi)
		}
		return cmp.Compare(a.Lo, b.Lo)
	})
	return l[:min(len(l), p.most)]
}

func (p plainFew) guess() uint64 {
	l := p.traces()
	if len(l) < p.most {
		return uint64(len(l))
	}
	return plainGuess(p.most, sample.Mix(l[p.most-1]))
}

func plainGuess(most int, m uint64) uint64 {
	n := new(big.Int).Lsh(big.NewInt(int64(most-1)), 64)
	n.Quo(n, new(big.Int).Add(new(big.Int).SetUint64(m), big.NewInt(1)))
	if !n.IsUint64() {
		return math.MaxUint64
	}
	return n.Uint64()
}

func same(t *testing.T, what any, f *sample.Few, p plainFew) {
	t.Helper()
	if !slices.Equal(f.Traces(), p.traces()) {
		t.Fatalf("%v: traces %v, not %v", what, f.Traces(), p.traces())
	}
	if f.Guess() != p.guess() {
		t.Fatalf("%v: guess %d, not %d", what, f.Guess(), p.guess())
	}
}

func TestNewFew(t *testing.T) {
	for _, most := range []int{1, 1001, 0, -1, -3, math.MinInt, math.MaxInt} {
		if f, e := sample.NewFew(most); f != nil || e != api.ErrArg {
			t.Errorf("NewFew(%d): %v, %v", most, f, e)
		}
	}
	for _, most := range []int{2, 3, 999, 1000} {
		same(t, most, few(t, most), newPlain(most))
	}
}

// TestExampleOfTheFew is the chapter's last one, in each order in which three may be put in.
func TestExampleOfTheFew(t *testing.T) {
	names := []api.TraceID{{Lo: 7}, {Hi: 1}, {Hi: 1, Lo: 2}} // df.., 4a.., 63..
	for _, o := range [][]int{{0, 1, 2}, {0, 2, 1}, {1, 0, 2}, {1, 2, 0}, {2, 0, 1}, {2, 1, 0}} {
		f := few(t, 2)
		for _, i := range o {
			f.Put(names[i])
		}
		if !slices.Equal(f.Traces(), []api.TraceID{{Hi: 1}, {Hi: 1, Lo: 2}}) {
			t.Error(o, f.Traces())
		}
		if f.Guess() != 2 { // 2^64 / (63.. + 1) is 2.57
			t.Error(o, f.Guess())
		}
	}
}

func TestPut(t *testing.T) {
	f := few(t, 3)
	for i, c := range []struct {
		mix   uint64
		there bool
		want  []uint64
	}{
		{500, true, []uint64{500}},
		{500, true, []uint64{500}},
		{900, true, []uint64{500, 900}},
		{100, true, []uint64{100, 500, 900}},
		{901, false, []uint64{100, 500, 900}},
		{math.MaxUint64, false, []uint64{100, 500, 900}},
		{900, true, []uint64{100, 500, 900}},
		{899, true, []uint64{100, 500, 899}},
		{900, false, []uint64{100, 500, 899}},
		{0, true, []uint64{0, 100, 500}},
		{101, true, []uint64{0, 100, 101}},
		{100, true, []uint64{0, 100, 101}},
		{1, true, []uint64{0, 1, 100}},
	} {
		if f.Put(mixed(c.mix, 5)) != c.there {
			t.Errorf("%d: Put of %d: %v", i, c.mix, !c.there)
		}
		var got []uint64
		for _, n := range f.Traces() {
			got = append(got, sample.Mix(n))
		}
		if !slices.Equal(got, c.want) {
			t.Fatalf("%d: %v, not %v", i, got, c.want)
		}
	}
}

// TestAnyName: also one that no span has.
func TestAnyName(t *testing.T) {
	f := few(t, 2)
	if !f.Put(api.TraceID{}) || !f.Put(api.TraceID{}) || f.Guess() != 1 || !slices.Equal(f.Traces(), []api.TraceID{{}}) {
		t.Error(f.Traces())
	}
}

// TestOneMix: of one mix Hi decides, which is never the same then.
func TestOneMix(t *testing.T) {
	var l []api.TraceID
	for lo := range uint64(40) {
		l = append(l, mixed(12345, lo))
	}
	sorted := slices.SortedFunc(slices.Values(l), func(a, b api.TraceID) int { return cmp.Compare(a.Hi, b.Hi) })
	r := rand.New(rand.NewPCG(21, 5))
	for _, most := range []int{2, 7, 39, 40, 41} {
		for range 20 {
			r.Shuffle(len(l), func(i, j int) { l[i], l[j] = l[j], l[i] })
			f := few(t, most)
			for _, n := range l {
				f.Put(n)
			}
			if !slices.Equal(f.Traces(), sorted[:min(most, 40)]) {
				t.Fatalf("of %d: %v", most, f.Traces())
			}
		}
	}
}

func TestGuess(t *testing.T) {
	for i, c := range []struct {
		f    *sample.Few
		want uint64
	}{
		{filled(t, 2), 0},
		{filled(t, 2, 0), 1},
		{filled(t, 2, math.MaxUint64), 1},
		{filled(t, 2, 0, 1), 1 << 63},
		{filled(t, 2, 0, 0), math.MaxUint64},
		{filled(t, 2, 5, 2), 3074457345618258602}, // 2^64 / 6
		{filled(t, 2, 5, 2, 3), 1 << 62},
		{filled(t, 2, 0, math.MaxUint64), 1},
		{filled(t, 2, 0, math.MaxUint64-1), 1},
		{filled(t, 2, 0, 1<<63-1), 2},
		{filled(t, 2, 0, 1<<63), 1},
		{filled(t, 4, 0, 1, math.MaxUint64), 3},
		{filled(t, 4, 0, 1, 7, math.MaxUint64), 3},
		{filled(t, 4, 0, 1, 7, math.MaxUint64-1), 3},
		{filled(t, 4, 0, 1, 2, 2), math.MaxUint64},
		{filled(t, 4, 0, 1, 2, 3), 13835058055282163712}, // 3 * 2^64 / 4
		{filled(t, 4, 0, 0, 0, 0), math.MaxUint64},
		{filled(t, 4, 0, 0, 0, 1), math.MaxUint64},
	} {
		if got := c.f.Guess(); got != c.want {
			t.Errorf("%d: %d, not %d", i, got, c.want)
		}
	}
}

// TestGuessOfEachLast: the last one's mix at all edges, in some of each size.
func TestGuessOfEachLast(t *testing.T) {
	for _, most := range []int{2, 3, 10, 999, 1000} {
		for _, m := range append(odds(), uint64(most-3), uint64(most-2), uint64(most-1), uint64(most), -uint64(most)) {
			f := few(t, most)
			for i := range most - 1 {
				f.Put(mixed(0, uint64(i)))
			}
			if f.Guess() != uint64(most-1) {
				t.Fatal(most, f.Guess())
			}
			f.Put(mixed(m, 5000))
			if f.Guess() != plainGuess(most, m) {
				t.Fatalf("of %d, with %d: %d, not %d", most, m, f.Guess(), plainGuess(most, m))
			}
		}
	}
}

func TestMergeRefuses(t *testing.T) {
	f := filled(t, 3, 5, 6)
	was := f.Traces()
	for _, o := range []*sample.Few{nil, few(t, 2), filled(t, 4, 1, 2, 3), filled(t, 1000, 1)} {
		if e := f.Merge(o); e != api.ErrArg {
			t.Error(e)
		}
		if o != nil && o.Merge(f) != api.ErrArg {
			t.Error("the other way")
		}
	}
	if !slices.Equal(f.Traces(), was) {
		t.Error("changed", f.Traces())
	}
}

func TestMerge(t *testing.T) {
	f, o := filled(t, 3, 10, 20, 30), filled(t, 3, 15, 5)
	was := o.Traces()
	if f.Merge(o) != api.OK || f.Guess() != plainGuess(3, 15) || !slices.Equal(o.Traces(), was) {
		t.Error(f.Traces(), o.Traces())
	}
	f.Put(mixed(1, 1))
	if !slices.Equal(o.Traces(), was) || o.Guess() != 2 {
		t.Error("o hangs on f")
	}
	o.Put(mixed(2, 2))
	if f.Guess() != plainGuess(3, 10) {
		t.Error("f hangs on o")
	}
	was = f.Traces()
	if f.Merge(f) != api.OK || !slices.Equal(f.Traces(), was) {
		t.Error("with itself", f.Traces())
	}
	empty := few(t, 3)
	if f.Merge(empty) != api.OK || !slices.Equal(f.Traces(), was) || empty.Merge(f) != api.OK || !slices.Equal(empty.Traces(), was) {
		t.Error("with none", empty.Traces())
	}
}

// drawnName is one of a few hundred, some of one mix with others.
func drawnName(r *rand.Rand) api.TraceID {
	switch r.IntN(3) {
	case 0:
		return mixed(uint64(r.IntN(20)), uint64(r.IntN(20)))
	case 1:
		return mixed(-uint64(r.IntN(9)), uint64(r.IntN(9)))
	}
	return api.TraceID{Hi: uint64(r.IntN(5)), Lo: uint64(r.IntN(40))}
}

// TestFewAgainstPlain holds three of them against sets in rows of calls: P21.5 and T12, as the sets know no order.
func TestFewAgainstPlain(t *testing.T) {
	r := rand.New(rand.NewPCG(21, 6))
	for range 150 {
		most := 2 + r.IntN(60)
		var fews [3]*sample.Few
		var plains [3]plainFew
		for i := range fews {
			fews[i], plains[i] = few(t, most), newPlain(most)
		}
		for range 120 {
			i, j := r.IntN(3), r.IntN(3)
			if r.IntN(20) == 0 {
				if fews[i].Merge(fews[j]) != api.OK {
					t.Fatal("merge")
				}
				for n := range plains[j].set {
					plains[i].set[n] = 1
				}
			} else {
				n := drawnName(r)
				plains[i].set[n] = 1
				if want := slices.Contains(plains[i].traces(), n); fews[i].Put(n) != want {
					t.Fatalf("Put of %v: %v", n, !want)
				}
			}
			same(t, most, fews[i], plains[i])
		}
		for i := range fews {
			same(t, most, fews[i], plains[i])
		}
	}
}

// TestHoweverPutTogether is P21.5: names in any order, some twice, cut among some that are merged in any order.
func TestHoweverPutTogether(t *testing.T) {
	r := rand.New(rand.NewPCG(21, 7))
	for range 40 {
		most, many := 2+r.IntN(300), r.IntN(600)
		p := newPlain(most)
		var names []api.TraceID
		for i := range many {
			n := api.TraceID{Hi: r.Uint64() >> r.IntN(64), Lo: uint64(i)}
			p.set[n] = 1
			names = append(names, n)
		}
		for range 4 {
			same(t, most, putTogether(t, r, most, names), p)
		}
	}
}

func putTogether(t *testing.T, r *rand.Rand, most int, names []api.TraceID) *sample.Few {
	t.Helper()
	names = slices.Clone(names)
	if len(names) > 0 {
		for range r.IntN(50) {
			names = append(names, names[r.IntN(len(names))])
		}
	}
	r.Shuffle(len(names), func(i, j int) { names[i], names[j] = names[j], names[i] })
	parts := make([]*sample.Few, 1+r.IntN(5))
	for i := range parts {
		parts[i] = few(t, most)
	}
	for _, n := range names {
		parts[r.IntN(len(parts))].Put(n)
	}
	for len(parts) > 1 {
		i := 1 + r.IntN(len(parts)-1)
		if parts[0].Merge(parts[i]) != api.OK {
			t.Fatal("merge")
		}
		parts[i] = parts[0]
		parts = parts[1:]
	}
	return parts[0]
}

// TestThousandMost: the greatest most, on both sides of it.
func TestThousandMost(t *testing.T) {
	f, p := few(t, 1000), newPlain(1000)
	for i := range 1500 {
		n := api.TraceID{Hi: uint64(i % 3), Lo: uint64(i)}
		f.Put(n)
		p.set[n] = 1
		if i < 998 && f.Guess() != uint64(i+1) {
			t.Fatal(i, f.Guess())
		}
		if i > 995 && i < 1005 || i == 1499 {
			same(t, i, f, p)
		}
	}
	if n := f.Guess(); n < 1200 || n > 1800 {
		t.Error("guess", n)
	}
}
