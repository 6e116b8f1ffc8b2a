package ival_test

import (
	"math/rand/v2"
	"slices"
	"testing"

	"spoor/api"
	"spoor/ival"
)

func same(a, b []api.Interval) bool {
	return len(a) == 0 && len(b) == 0 || slices.Equal(a, b)
}

// inForm holds the chapter's words against a list.
func inForm(l []api.Interval) bool {
	for i, a := range l {
		if a.To <= a.From || i > 0 && a.From <= l[i-1].To {
			return false
		}
	}
	return true
}

// worlds are the numbers that the ends of random lists are taken from: few, so that ends often fall together; the model asks each stretch between two of them.
func worlds() [][]int64 {
	return [][]int64{
		{-4, -3, -2, -1, 0, 1, 2, 3, 4, 5},
		{least, least + 1, least + 2, -1, 0, 1, greatest - 2, greatest - 1, greatest},
		{least, -1 << 62, 0, 1 << 62, greatest},
		{-1 << 40, -5, 3, 4, 5, 7, 1 << 33, 1 << 50, 1<<50 + 1, 1 << 61, 1<<61 + 9, greatest - 7},
	}
}

func randomList(r *rand.Rand, world []int64) []api.Interval {
	l := make([]api.Interval, r.IntN(8))
	for i := range l {
		l[i] = one(world[r.IntN(len(world))], world[r.IntN(len(world))])
		if r.IntN(2) == 0 && l[i].To < l[i].From {
			l[i].From, l[i].To = l[i].To, l[i].From
		}
	}
	return l
}

func plainHas(l []api.Interval, at int64) bool {
	return slices.ContainsFunc(l, func(a api.Interval) bool { return at >= a.From && at < a.To })
}

// plainSet builds the list in its form stretch by stretch: a stretch between two numbers of the world that stand side by side is in a set whole or not at all, as its first moment is.
func plainSet(world []int64, in func(at int64) bool) []api.Interval {
	var l []api.Interval
	for i := 0; i+1 < len(world); i++ {
		if !in(world[i]) {
			continue
		}
		if n := len(l); n > 0 && l[n-1].To == world[i] {
			l[n-1].To = world[i+1]
		} else {
			l = append(l, one(world[i], world[i+1]))
		}
	}
	return l
}

func plainMeasure(l []api.Interval) uint64 {
	var n uint64
	for _, a := range l {
		n += uint64(a.To - a.From)
	}
	return n
}

// every calls f with many pairs of lists, of each world.
func every(f func(r *rand.Rand, world []int64, a, b []api.Interval)) {
	for i, world := range worlds() {
		r := rand.New(rand.NewPCG(6, uint64(i)))
		for range 8000 {
			f(r, world, randomList(r, world), randomList(r, world))
		}
	}
}

// I3 to I7 and P6.2, held against the plain model.
func TestModel(t *testing.T) {
	every(func(_ *rand.Rand, world []int64, a, b []api.Interval) {
		inA := func(at int64) bool { return plainHas(a, at) }
		normal := plainSet(world, inA)
		meet := plainSet(world, func(at int64) bool { return plainHas(a, at) && plainHas(b, at) })
		minus := plainSet(world, func(at int64) bool { return plainHas(a, at) && !plainHas(b, at) })
		if got := ival.Normal(a); !same(got, normal) || !inForm(got) {
			t.Fatalf("Normal of %v is %v, not %v", a, got, normal)
		}
		if got := ival.Meet(a, b); !same(got, meet) || !inForm(got) {
			t.Fatalf("Meet of %v and %v is %v, not %v", a, b, got, meet)
		}
		if got := ival.Minus(a, b); !same(got, minus) || !inForm(got) {
			t.Fatalf("Minus of %v and %v is %v, not %v", a, b, got, minus)
		}
		if got := ival.Measure(a); got != plainMeasure(normal) {
			t.Fatalf("Measure of %v is %d, not %d", a, got, plainMeasure(normal))
		}
		for _, at := range world {
			for _, x := range []int64{at, max(at, least+1) - 1, min(at, greatest-1) + 1} {
				if ival.Has(a, x) != plainHas(a, x) {
					t.Fatalf("Has of %v, at %d is %v", a, x, ival.Has(a, x))
				}
			}
		}
	})
}

// cut has the same set as l: each interval cut up, some pieces twice, empty ones among them, in another order.
func cut(r *rand.Rand, world []int64, l []api.Interval) []api.Interval {
	var out []api.Interval
	for _, a := range l {
		mid := world[r.IntN(len(world))]
		switch {
		case a.To <= a.From:
			out = append(out, one(mid, mid))
		case a.From < mid && mid < a.To:
			out = append(out, one(a.From, mid), one(mid, a.To))
		default:
			out = append(out, a, a)
		}
		out = append(out, one(mid, a.From), one(a.To, mid))
	}
	out = slices.DeleteFunc(out, func(x api.Interval) bool { // what reaches beyond l's set
		return x.To > x.From && plainMeasure(plainMinusOne(world, x, l)) > 0
	})
	r.Shuffle(len(out), func(i, j int) { out[i], out[j] = out[j], out[i] })
	return out
}

func plainMinusOne(world []int64, x api.Interval, l []api.Interval) []api.Interval {
	return plainSet(world, func(at int64) bool { return x.From <= at && at < x.To && !plainHas(l, at) })
}

// P6.2: Normal of a list in its form is that list, and lists of one set have one Normal; so Meet, Minus and Measure answer alike of them.
func TestOneForm(t *testing.T) {
	every(func(r *rand.Rand, world []int64, a, b []api.Interval) {
		n := ival.Normal(a)
		if again := ival.Normal(n); !same(again, n) {
			t.Fatalf("Normal of %v, which is in its form, is %v", n, again)
		}
		c, d := cut(r, world, a), cut(r, world, b)
		if got := ival.Normal(c); !same(got, n) {
			t.Fatalf("Normal of %v is %v, but of %v, the same set, %v", a, n, c, got)
		}
		if !same(ival.Meet(a, b), ival.Meet(c, d)) || !same(ival.Meet(a, b), ival.Meet(b, a)) {
			t.Fatalf("Meet of %v and %v differs of the same sets %v and %v, or the other way round", a, b, c, d)
		}
		if !same(ival.Minus(a, b), ival.Minus(c, d)) || ival.Measure(a) != ival.Measure(c) {
			t.Fatalf("Minus of %v and %v, or Measure, differs of the same sets %v and %v", a, b, c, d)
		}
	})
}

// P6.2: in whatever order: all orders of a few intervals.
func TestAllOrders(t *testing.T) {
	l := list(5, 7, 1, 3, 7, 9, 4, 4, 2, 3, 12, 10)
	want := list(1, 3, 5, 9)
	var arrange func(n int)
	arrange = func(n int) {
		if n == len(l) {
			if got := ival.Normal(l); !same(got, want) {
				t.Fatalf("Normal of %v is %v", l, got)
			}
			return
		}
		for i := n; i < len(l); i++ {
			l[n], l[i] = l[i], l[n]
			arrange(n + 1)
			l[n], l[i] = l[i], l[n]
		}
	}
	arrange(0)
}

// P6.3: no moment is lost or counted twice.
func TestNothingLost(t *testing.T) {
	every(func(_ *rand.Rand, _ []int64, a, b []api.Interval) {
		with, without := ival.Meet(a, b), ival.Minus(a, b)
		if ival.Measure(a) != ival.Measure(with)+ival.Measure(without) {
			t.Fatalf("of %v %d moments are with %v, %d without, %d in all", a, ival.Measure(with), b, ival.Measure(without), ival.Measure(a))
		}
		if both := ival.Normal(slices.Concat(without, with)); !same(both, ival.Normal(a)) {
			t.Fatalf("what %v has with %v and without is %v", a, b, both)
		}
		if len(ival.Meet(with, without)) != 0 {
			t.Fatalf("%v and %v have moments in common", with, without)
		}
	})
}

// plainClip is I1, written down as it stands.
func plainClip(a, within api.Interval) api.Interval {
	brought := func(v int64) int64 {
		switch {
		case v < within.From:
			return within.From
		case v > within.To:
			return within.To
		}
		return v
	}
	switch {
	case within.To <= within.From:
		return one(within.From, within.From)
	case a.To <= a.From:
		return one(brought(a.From), brought(a.From))
	}
	return one(brought(a.From), brought(a.To))
}

// P6.4, of all intervals whose ends are in a world; and I1's rule, and I2.
func TestClipOfAll(t *testing.T) {
	for _, world := range worlds() {
		var all []api.Interval
		for _, from := range world {
			for _, to := range world {
				all = append(all, one(from, to))
			}
		}
		for _, a := range all {
			if ival.Length(a) != ival.Measure([]api.Interval{a}) {
				t.Fatalf("Length of %v is %d", a, ival.Length(a))
			}
			for _, within := range all {
				checkClip(t, a, within)
			}
		}
	}
}

func checkClip(t *testing.T, a, within api.Interval) {
	t.Helper()
	got := ival.Clip(a, within)
	if got != plainClip(a, within) {
		t.Fatalf("Clip of %v to %v is %v, not %v", a, within, got, plainClip(a, within))
	}
	if got.To < got.From || got.To > got.From && (got.From < within.From || got.To > within.To) {
		t.Fatalf("Clip of %v to %v is %v: it reaches out", a, within, got)
	}
	if again := ival.Clip(got, within); again != got {
		t.Fatalf("Clip of %v to %v is %v, and once more %v", a, within, got, again)
	}
	if both := ival.Meet([]api.Interval{a}, []api.Interval{within}); !same(both, ival.Normal([]api.Interval{got})) {
		t.Fatalf("Clip of %v to %v is %v, but both have %v", a, within, got, both)
	}
}
