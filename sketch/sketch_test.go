package sketch_test

import (
	"math"
	"slices"
	"testing"

	"spoor/api"
	"spoor/sketch"
)

const most uint64 = math.MaxUint64

// list makes a sketch of numbers of bars and their Counts, by twos.
func list(of ...uint64) []api.Bar {
	var l []api.Bar
	for i := 0; i < len(of); i += 2 {
		l = append(l, api.Bar{Index: int(of[i]), Count: of[i+1]})
	}
	return l
}

// every has each bar there is, of one Count.
func every(count uint64) []api.Bar {
	var l []api.Bar
	for i := range api.MaxBars {
		l = append(l, api.Bar{Index: i, Count: count})
	}
	return l
}

func same(a, b []api.Bar) bool {
	return len(a) == 0 && len(b) == 0 || slices.Equal(a, b)
}

// tells: is a call's answer this sketch, which may be?
func tells(t *testing.T, call string, got []api.Bar, e api.Errno, want []api.Bar) {
	t.Helper()
	if e != api.OK || !same(got, want) || sketch.Check(got) != api.OK {
		t.Fatalf("%s is %v, %v, not %v", call, got, e, want)
	}
}

// refused: is a call's answer this error, and nothing beside it?
func refused(t *testing.T, call string, got []api.Bar, e, want api.Errno) {
	t.Helper()
	if e != want || len(got) != 0 {
		t.Fatalf("%s is %v, %v, not %v", call, got, e, want)
	}
}

func between(t *testing.T, l []api.Bar, num, den, least, greatest uint64) {
	t.Helper()
	if a, b, e := sketch.Quantile(l, num, den); a != least || b != greatest || e != api.OK {
		t.Fatalf("Quantile(%d, %d) of %v is %d, %d, %v, not %d and %d", num, den, l, a, b, e, least, greatest)
	}
}

func noQuantile(t *testing.T, l []api.Bar, num, den uint64, want api.Errno) {
	t.Helper()
	if a, b, e := sketch.Quantile(l, num, den); a != 0 || b != 0 || e != want {
		t.Fatalf("Quantile(%d, %d) of %v is %d, %d, %v, not %v", num, den, l, a, b, e, want)
	}
}

func counted(t *testing.T, l []api.Bar, want api.Nat) {
	t.Helper()
	if n, e := sketch.Count(l); n != want || e != api.OK {
		t.Fatalf("Count of %v is %v, %v, not %v", l, n, e, want)
	}
}

// The chapter's table, line by line.
func TestExamples(t *testing.T) {
	index := map[uint64]int{0: 0, 63: 63, 64: 64, 65: 64, 66: 65, 127: 95, 128: 96, most: 1919}
	for v, want := range index {
		if got := sketch.Index(v); got != want {
			t.Errorf("Index of %d is %d, not %d", v, got, want)
		}
	}
	span := map[int][2]uint64{5: {5, 5}, 64: {64, 65}, 95: {126, 127}, 96: {128, 131}, 1919: {most - 1<<58 + 1, most}}
	for i, want := range span {
		if a, b, e := sketch.Span(i); a != want[0] || b != want[1] || e != api.OK {
			t.Errorf("Span of %d is %d, %d, %v", i, a, b, e)
		}
	}
	if a, b, e := sketch.Span(1920); a != 0 || b != 0 || e != api.ErrArg {
		t.Errorf("Span of 1920 is %d, %d, %v", a, b, e)
	}
	one, e := sketch.Add(nil, 100, 2)
	tells(t, "100, twice", one, e, list(82, 2))
	both, e := sketch.Add(one, 7, 1)
	tells(t, "with 7", both, e, list(7, 1, 82, 2))
	l, e := sketch.Less(both, list(82, 3))
	refused(t, "Less by {82 3}", l, e, api.ErrSketchLess)
	l, e = sketch.Less(both, list(82, 2))
	tells(t, "Less by {82 2}", l, e, list(7, 1))
	between(t, both, 1, 2, 100, 101)
	between(t, both, 1, 3, 7, 7)
	between(t, both, 0, 1, 7, 7)
	between(t, both, 1, 1, 100, 101)
	noQuantile(t, nil, 1, 2, api.ErrSketchNone)
	noQuantile(t, list(7, 1), 2, 1, api.ErrSketchRatio)
	if e := sketch.Check(list(7, 0)); e != api.ErrSketchBars {
		t.Errorf("Check of {7 0} is %v", e)
	}
	l, e = sketch.Merge(list(3, most), list(3, 1))
	tells(t, "Merge", l, e, list(3, most))
	counted(t, list(3, most, 4, 2), api.Nat{Hi: 1, Lo: 1})
}

// Span is of the bars there are, and of no others.
func TestNoSuchBar(t *testing.T) {
	for _, i := range []int{-1, -2, -64, -1920, 1920, 1921, 3840, 1 << 32, math.MinInt, math.MaxInt} {
		if a, b, e := sketch.Span(i); a != 0 || b != 0 || e != api.ErrArg {
			t.Errorf("Span of %d is %d, %d, %v", i, a, b, e)
		}
	}
	for _, i := range []int{0, 1, 63, 64, 1918, 1919} {
		if _, _, e := sketch.Span(i); e != api.OK {
			t.Errorf("Span of %d is %v", i, e)
		}
	}
}

// bad has bars that may not be: each thing that may be wrong, first, last or in the middle.
func bad() [][]api.Bar {
	l := [][]api.Bar{
		list(7, 0), list(7, 1, 7, 1), list(7, 1, 6, 1), list(1919, 1, 0, 1), list(0, 1, 0, 2),
		list(7, 0, 8, 1), list(7, 1, 8, 0), list(7, 1, 8, 0, 9, 1),
		list(1, 1, 5, 1, 3, 1), list(5, 1, 1, 1, 3, 1), list(1, 1, 3, 1, 3, 1), list(1, 1, 5, 1, 3, 1, 9, 1),
		list(1920, 1), list(1919, 1, 1920, 1), list(3, 1, 1920, 1, 4, 1), list(1920, 1, 3, 1), list(0, 0),
	}
	for _, i := range []int{-1, -5, -1920, 1920, 5000, math.MinInt, math.MaxInt} {
		x := api.Bar{Index: i, Count: 1}
		l = append(l, []api.Bar{x}, append(list(3, 1), x), append([]api.Bar{x}, list(3, 1)...), append([]api.Bar{x}, every(1)...))
	}
	l = append(l, append(every(1), list(1919, 1)...), append(list(0, 1), every(1)...), append(every(1), every(1)...))
	turned := every(2)
	slices.Reverse(turned)
	empty := every(1)
	empty[1000].Count = 0
	return append(l, turned, empty, make([]api.Bar, 1920), make([]api.Bar, 100000))
}

// good has sketches of all kinds.
func good() [][]api.Bar {
	return [][]api.Bar{nil, {}, list(0, 1), list(1919, 1), list(0, most), list(63, 1, 64, 1), list(0, 5, 1919, 7),
		list(7, 1, 82, 2), list(3, most, 4, 2), list(3, most, 4, most, 1919, most), every(1), every(most), every(1)[1:1919]}
}

func TestCheck(t *testing.T) {
	for _, l := range good() {
		if e := sketch.Check(l); e != api.OK {
			t.Errorf("Check of %v is %v", l, e)
		}
	}
	for _, l := range bad() {
		if e := sketch.Check(l); e != api.ErrSketchBars {
			t.Errorf("Check of %v is %v", l, e)
		}
	}
}

// Bars that may not be are refused by every call, ahead of all else that is wrong, wherever they stand, with nothing beside the error.
func TestBadBars(t *testing.T) {
	for _, l := range bad() {
		for _, times := range []uint64{0, 1, most} {
			got, e := sketch.Add(l, 7, times)
			refused(t, "Add", got, e, api.ErrSketchBars)
		}
		for _, other := range append(good(), bad()[0], l) {
			got, e := sketch.Merge(l, other)
			refused(t, "Merge", got, e, api.ErrSketchBars)
			got, e = sketch.Merge(other, l)
			refused(t, "Merge", got, e, api.ErrSketchBars)
			got, e = sketch.Less(l, other)
			refused(t, "Less", got, e, api.ErrSketchBars)
			got, e = sketch.Less(other, l)
			refused(t, "Less", got, e, api.ErrSketchBars)
		}
		if n, e := sketch.Count(l); n != (api.Nat{}) || e != api.ErrSketchBars {
			t.Errorf("Count of %v is %v, %v", l, n, e)
		}
		for _, x := range [][2]uint64{{1, 2}, {0, 0}, {2, 1}, {1, 1000001}} {
			noQuantile(t, l, x[0], x[1], api.ErrSketchBars)
		}
	}
}

func TestAdd(t *testing.T) {
	cases := []struct {
		l     []api.Bar
		v     uint64
		times uint64
		want  []api.Bar
	}{
		{nil, 0, 1, list(0, 1)},
		{nil, most, 1, list(1919, 1)},
		{nil, 64, most, list(64, most)},
		{nil, 64, 0, nil},
		{[]api.Bar{}, 5, 0, nil},
		{list(7, 1), 7, 1, list(7, 2)},
		{list(7, 1), 6, 3, list(6, 3, 7, 1)},
		{list(7, 1), 8, 3, list(7, 1, 8, 3)},
		{list(7, 1, 9, 1), 8, 3, list(7, 1, 8, 3, 9, 1)},
		{list(64, 1), 65, 1, list(64, 2)},
		{list(64, 1), 66, 1, list(64, 1, 65, 1)},
		// of 0 times: the same, whether the bar is there or not
		{list(7, 1, 9, 1), 8, 0, list(7, 1, 9, 1)},
		{list(7, 1, 9, 1), 9, 0, list(7, 1, 9, 1)},
		{every(3), most, 0, every(3)},
		// no higher than the greatest
		{list(7, most), 7, 1, list(7, most)},
		{list(7, most), 7, most, list(7, most)},
		{list(7, most), 7, 0, list(7, most)},
		{list(7, most-1), 7, 1, list(7, most)},
		{list(7, most-2), 7, 1, list(7, most-1)},
		{list(7, 1), 7, most, list(7, most)},
		{list(7, 1), 7, most - 1, list(7, most)},
		{list(7, 1<<63, 8, 1), 7, 1 << 63, list(7, most, 8, 1)},
		{list(7, 1<<63), 7, 1<<63 - 1, list(7, most)},
		{list(6, most, 8, most), 7, 1, list(6, most, 7, 1, 8, most)},
	}
	for _, c := range cases {
		got, e := sketch.Add(c.l, c.v, c.times)
		tells(t, "Add", got, e, c.want)
	}
	full, e := sketch.Add(every(3), 100, 4)
	want := every(3)
	want[82].Count = 7
	tells(t, "Add to all", full, e, want)
}

func TestMerge(t *testing.T) {
	cases := []struct{ a, b, want []api.Bar }{
		{nil, nil, nil},
		{[]api.Bar{}, nil, nil},
		{list(7, 1), nil, list(7, 1)},
		{list(7, 1), list(7, 2), list(7, 3)},
		{list(7, 1), list(8, 2), list(7, 1, 8, 2)},
		{list(7, 1, 82, 2), list(0, 9, 82, 1, 1919, 4), list(0, 9, 7, 1, 82, 3, 1919, 4)},
		{list(1, 1, 3, 3, 5, 5), list(2, 2, 4, 4), list(1, 1, 2, 2, 3, 3, 4, 4, 5, 5)},
		{list(1, 1, 2, 2), list(3, 3, 4, 4), list(1, 1, 2, 2, 3, 3, 4, 4)},
		{list(3, most), list(3, most), list(3, most)},
		{list(3, most-1), list(3, 1), list(3, most)},
		{list(3, most-2), list(3, 1), list(3, most-1)},
		{list(3, 1<<63), list(3, 1<<63), list(3, most)},
		{list(3, 1<<63), list(3, 1<<63-1), list(3, most)},
		{list(3, most, 4, 1), list(3, 7, 5, 1), list(3, most, 4, 1, 5, 1)},
		{every(1), every(2), every(3)},
		{every(most), every(1), every(most)},
		{every(1)[:960], every(1)[960:], every(1)},
	}
	for _, c := range cases {
		got, e := sketch.Merge(c.a, c.b)
		tells(t, "Merge", got, e, c.want)
		got, e = sketch.Merge(c.b, c.a)
		tells(t, "Merge", got, e, c.want)
	}
}

func TestLess(t *testing.T) {
	cases := []struct{ a, b, want []api.Bar }{
		{nil, nil, nil},
		{list(7, 1), nil, list(7, 1)},
		{list(7, 1), list(7, 1), nil},
		{list(7, 3), list(7, 1), list(7, 2)},
		{list(7, 3), list(7, 2), list(7, 1)},
		{list(7, most), list(7, most), nil},
		{list(7, most), list(7, 1), list(7, most-1)},
		{list(7, most), list(7, most-1), list(7, 1)},
		{list(1, 1, 2, 2, 3, 3), list(2, 2), list(1, 1, 3, 3)},
		{list(1, 1, 2, 2, 3, 3), list(1, 1, 3, 3), list(2, 2)},
		{list(0, 4, 1919, 4), list(0, 4, 1919, 3), list(1919, 1)},
		{list(0, 4, 1919, 4), list(0, 3, 1919, 4), list(0, 1)},
		{every(3), every(2), every(1)},
		{every(most), every(most), nil},
	}
	for _, c := range cases {
		got, e := sketch.Less(c.a, c.b)
		tells(t, "Less", got, e, c.want)
	}
}

// What has not as much, in one bar, is refused, whatever the others have.
func TestLessThanThereIs(t *testing.T) {
	cases := []struct{ a, b []api.Bar }{
		{nil, list(0, 1)},
		{nil, list(1919, 1)},
		{nil, every(1)},
		{list(7, 1), list(7, 2)},
		{list(7, most-1), list(7, most)},
		{list(7, 1), list(7, most)},
		{list(7, 1), list(8, 1)},
		{list(7, most), list(6, 1)},
		{list(7, 5, 9, 5), list(8, 1)},
		{list(7, 5, 9, 5), list(7, 5, 9, 6)},
		{list(7, 5, 9, 5), list(7, 6, 9, 5)},
		{list(7, 5, 9, 5), list(7, 1, 8, 1, 9, 1)},
		{list(7, 5, 9, 5), list(7, 1, 1919, 1)},
		{every(1), every(2)},
		{every(1)[:1919], every(1)},
		{every(1)[1:], every(1)},
	}
	for _, c := range cases {
		got, e := sketch.Less(c.a, c.b)
		refused(t, "Less", got, e, api.ErrSketchLess)
	}
}

func TestCount(t *testing.T) {
	counted(t, nil, api.Nat{})
	counted(t, []api.Bar{}, api.Nat{})
	counted(t, list(7, 1), api.Nat{Lo: 1})
	counted(t, list(7, 1, 82, 2), api.Nat{Lo: 3})
	counted(t, list(0, most), api.Nat{Lo: most})
	counted(t, list(0, most, 1, 1), api.Nat{Hi: 1})
	counted(t, list(0, 1, 1, most), api.Nat{Hi: 1})
	counted(t, list(0, most, 1, most), api.Nat{Hi: 1, Lo: most - 1})
	counted(t, list(0, 1<<63, 5, 1<<63, 1919, 1<<63), api.Nat{Hi: 1, Lo: 1 << 63})
	counted(t, every(1), api.Nat{Lo: 1920})
	counted(t, every(most), api.Nat{Hi: 1919, Lo: most - 1919})
}

// The parts that may not be; of nothing there are none, whatever the part.
func TestQuantileRefused(t *testing.T) {
	ratios := [][2]uint64{{0, 0}, {1, 0}, {most, 0}, {2, 1}, {1, 1000001}, {0, 1000001}, {1000001, 1000001}, {1000001, 1000000}, {0, most}, {most, most}, {most, 1}, {3, 2}, {1, 1 << 32}}
	for _, x := range ratios {
		for _, l := range [][]api.Bar{list(7, 1), list(7, 1, 82, 2), list(0, most, 1919, most), every(most)} {
			noQuantile(t, l, x[0], x[1], api.ErrSketchRatio)
		}
		noQuantile(t, nil, x[0], x[1], api.ErrSketchNone)
		noQuantile(t, []api.Bar{}, x[0], x[1], api.ErrSketchNone)
	}
	noQuantile(t, nil, 0, 1, api.ErrSketchNone)
	noQuantile(t, nil, 1000000, 1000000, api.ErrSketchNone)
}

func TestQuantile(t *testing.T) {
	ten := list(1, 1, 2, 1, 3, 1, 4, 1, 5, 1, 6, 1, 7, 1, 8, 1, 9, 1, 10, 1)
	for _, x := range [][3]uint64{{0, 10, 1}, {1, 10, 1}, {2, 10, 2}, {10, 10, 10}, {1, 2, 5}, {1, 100, 1}, {10, 100, 1}, {11, 100, 2}, {20, 100, 2}, {21, 100, 3}, {99, 100, 10}, {90, 100, 9}, {91, 100, 10}, {1, 3, 4}, {2, 3, 7}, {1, 1000000, 1}, {100000, 1000000, 1}, {100001, 1000000, 2}, {999999, 1000000, 10}, {900000, 1000000, 9}} {
		between(t, ten, x[0], x[1], x[2], x[2])
	}
	between(t, list(1919, 1), 0, 1, most-1<<58+1, most)
	between(t, list(0, 1), 1, 1, 0, 0)
	between(t, list(7, most), 1, 2, 7, 7)
	// sums and products above 64 bits: the last value of one bar, and the first of the next one
	two := list(7, most, 9, most)
	between(t, two, 1, 2, 7, 7)
	between(t, two, 500001, 1000000, 9, 9)
	between(t, two, 499999, 1000000, 7, 7)
	between(t, two, 1000000, 1000000, 9, 9)
	between(t, list(7, most-1, 9, most), 1, 2, 9, 9)
	between(t, list(7, most, 9, most-1), 1, 2, 7, 7)
	between(t, list(7, most-1, 8, 1, 9, most), 1, 2, 8, 8)
	between(t, list(7, 1, 8, most), 1, 1000000, 8, 8)
	between(t, list(7, most, 8, 1), 999999, 1000000, 7, 7)
	between(t, list(7, most, 8, 1), 1, 1, 8, 8)
	for i := range uint64(1920) {
		least, greatest, _ := sketch.Span(int(i))
		between(t, every(most), i+1, 1920, least, greatest)
		between(t, every(1), i+1, 1920, least, greatest)
	}
}
