package rollup_test

import (
	"fmt"
	"math"
	"reflect"
	"slices"
	"strconv"
	"testing"

	"spoor/api"
	"spoor/calls"
	"spoor/rollup"
)

const (
	most uint64 = math.MaxUint64
	ends        = 1 << 21 // the hour behind the last one that may be
)

var (
	greatest = api.Nat{Hi: most, Lo: most}
	ab       = edge("a", "b")
	ba       = edge("b", "a")
)

func edge(from, to string) api.Edge { return api.Edge{From: from, To: to} }

// list makes bars of their numbers and Counts, by twos.
func list(of ...uint64) []api.Bar {
	var l []api.Bar
	for i := 0; i < len(of); i += 2 {
		l = append(l, api.Bar{Index: int(of[i]), Count: of[i+1]})
	}
	return l
}

// small is a tally whose numbers are of 64 bits.
func small(n, errors, took uint64, bars ...uint64) api.Tally {
	return api.Tally{Calls: api.Nat{Lo: n}, Errors: api.Nat{Lo: errors}, Took: api.Nat{Lo: took}, Bars: list(bars...)}
}

// times is the chapter's T, so many times.
func times(n uint64) api.Tally { return small(n, 0, 5*n, 5, n) }

func of(e api.Edge, t api.Tally) api.EdgeTally { return api.EdgeTally{Edge: e, Tally: t} }

func window(from, hours int64, l ...api.EdgeTally) api.Window {
	return api.Window{From: from, Hours: hours, Edges: l}
}

func made(t *testing.T, fan int) *rollup.Rollup {
	t.Helper()
	r, err := rollup.New(fan)
	if err != api.OK || r == nil {
		t.Fatal(fan, r, err)
	}
	return r
}

func put(t *testing.T, r *rollup.Rollup, hour int64, e api.Edge, x api.Tally) {
	t.Helper()
	if err := r.Put(hour, e, x); err != api.OK {
		t.Fatalf("Put of %v at %d: %v", x, hour, err)
	}
}

func take(t *testing.T, r *rollup.Rollup, hour int64, e api.Edge, x api.Tally) {
	t.Helper()
	if err := r.Take(hour, e, x); err != api.OK {
		t.Fatalf("Take of %v at %d: %v", x, hour, err)
	}
}

// sameEdges tells whether lists of edges are; lists of nothing may be nil or empty.
func sameEdges(a, b []api.EdgeTally) bool {
	return slices.EqualFunc(a, b, func(x, y api.EdgeTally) bool {
		return x.Edge == y.Edge && x.Tally.Calls == y.Tally.Calls && x.Tally.Errors == y.Tally.Errors && x.Tally.Took == y.Tally.Took && slices.Equal(x.Tally.Bars, y.Tally.Bars)
	})
}

func sameWindows(a, b []api.Window) bool {
	return slices.EqualFunc(a, b, func(x, y api.Window) bool {
		return x.From == y.From && x.Hours == y.Hours && sameEdges(x.Edges, y.Edges)
	})
}

func ranges(t *testing.T, r *rollup.Rollup, from, to int64, want ...api.EdgeTally) {
	t.Helper()
	if l, err := r.Range(from, to); err != api.OK || !sameEdges(l, want) {
		t.Fatalf("Range from %d to %d: %v, %v, not %v", from, to, l, err, want)
	}
}

func covers(t *testing.T, r *rollup.Rollup, from, to int64, want ...api.Window) {
	t.Helper()
	if l, err := r.Cover(from, to); err != api.OK || !sameWindows(l, want) {
		t.Fatalf("Cover from %d to %d: %v, %v, not %v", from, to, l, err, want)
	}
}

func windows(t *testing.T, r *rollup.Rollup, level int, want ...api.Window) {
	t.Helper()
	if l, err := r.Windows(level); err != api.OK || !sameWindows(l, want) {
		t.Fatalf("Windows of level %d: %v, %v, not %v", level, l, err, want)
	}
}

func hours(t *testing.T, r *rollup.Rollup, first, behind int64) {
	t.Helper()
	if a, b := r.Hours(); a != first || b != behind {
		t.Fatalf("Hours: %d and %d, not %d and %d", a, b, first, behind)
	}
}

// tops: are these the edges that Top tells, in this order, each as Range tells it?
func tops(t *testing.T, r *rollup.Rollup, from, to int64, by, many int, want ...api.Edge) {
	t.Helper()
	l, err := r.Top(from, to, by, many)
	all, _ := r.Range(from, to)
	var got []api.Edge
	for _, x := range l {
		got = append(got, x.Edge)
		if !slices.ContainsFunc(all, func(y api.EdgeTally) bool { return reflect.DeepEqual(x, y) }) {
			t.Errorf("Top tells %v, Range %v", x, all)
		}
	}
	if err != api.OK || !slices.Equal(got, want) {
		t.Fatalf("Top by %d: %v, %v, not %v", by, got, err, want)
	}
}

// seen is all that a rollup tells of its windows, hour by hour and level by level.
type seen struct {
	first, behind int64
	levels        [][]api.Window
}

func see(r *rollup.Rollup) seen {
	var s seen
	s.first, s.behind = r.Hours()
	for k := 0; ; k++ {
		l, err := r.Windows(k)
		if err != api.OK {
			return s
		}
		s.levels = append(s.levels, l)
	}
}

func (s seen) same(o seen) bool {
	return s.first == o.first && s.behind == o.behind && slices.EqualFunc(s.levels, o.levels, sameWindows)
}

func stays(t *testing.T, what string, r *rollup.Rollup, before seen) {
	t.Helper()
	now := see(r)
	if now.same(before) {
		return
	}
	for k := range min(len(now.levels), len(before.levels)) { // one level is enough to be read
		if !sameWindows(now.levels[k], before.levels[k]) {
			t.Fatalf("%s: level %d is %v, not %v", what, k, now.levels[k], before.levels[k])
		}
	}
	t.Fatalf("%s: hours from %d to %d, %d levels", what, now.first, now.behind, len(now.levels))
}

// The chapter's examples.
func TestExamples(t *testing.T) {
	for _, fan := range []int{1, 17} {
		if r, err := rollup.New(fan); r != nil || err != api.ErrArg {
			t.Error(fan, r, err)
		}
	}
	r := made(t, 4)
	put(t, r, 7, ab, times(1))
	put(t, r, 8, ab, times(1))
	if err := r.Put(2097152, ab, times(1)); err != api.ErrRollupHour {
		t.Error(err)
	}
	hours(t, r, 7, 9)
	ranges(t, r, 0, 8, of(ab, times(1)))
	ranges(t, r, 7, 9, of(ab, times(2)))
	if l, err := r.Range(9, 8); err != api.ErrRollupHour || len(l) > 0 {
		t.Error(l, err)
	}
	covers(t, r, 3, 13, window(3, 1), window(4, 4, of(ab, times(1))), window(8, 4, of(ab, times(1))), window(12, 1))
	windows(t, r, 2, window(0, 16, of(ab, times(2))))
	windows(t, r, 11, window(0, 1<<22, of(ab, times(2))))
	if l, err := r.Windows(12); err != api.ErrArg || len(l) > 0 {
		t.Error(l, err)
	}
	take(t, r, 7, ab, times(1))
	if err := r.Take(7, ab, times(1)); err != api.ErrRollupLess {
		t.Error(err)
	}
	hours(t, r, 8, 9)
	if l, err := r.Top(0, 100, 3, 1); err != api.ErrArg || len(l) > 0 {
		t.Error(l, err)
	}
	tops(t, r, 0, 100, 0, 0)
}

// R1: the fans that may be, and what a new rollup has: nothing, and nothing in common with another one.
func TestNew(t *testing.T) {
	for _, fan := range []int{math.MinInt, -2, -1, 0, 1, 17, 18, 32, math.MaxInt} {
		if r, err := rollup.New(fan); r != nil || err != api.ErrArg {
			t.Error(fan, r, err)
		}
	}
	for fan := 2; fan <= api.MaxFan; fan++ {
		r, o := made(t, fan), made(t, fan)
		put(t, o, 3, ab, times(1))
		hours(t, r, 0, 0)
		ranges(t, r, 0, ends)
		tops(t, r, 0, ends, 0, api.MaxTop)
		for k, l := range see(r).levels {
			if len(l) > 0 {
				t.Error(fan, k, l)
			}
		}
	}
}

// The levels: up to the first of which a window has 2^21 hours or more.
func TestLevels(t *testing.T) {
	last := map[int]int{2: 21, 3: 14, 4: 11, 5: 10, 6: 9, 7: 8, 8: 7, 9: 7, 10: 7, 11: 7, 12: 6, 13: 6, 14: 6, 15: 6, 16: 6}
	for fan, widest := range last {
		r := made(t, fan)
		put(t, r, 0, ab, times(1))
		put(t, r, ends-1, ba, times(2))
		wide := int64(1)
		for k := range widest {
			windows(t, r, k, window(0, wide, of(ab, times(1))), window((ends-1)/wide*wide, wide, of(ba, times(2))))
			wide *= int64(fan)
		}
		windows(t, r, widest, window(0, wide, of(ab, times(1)), of(ba, times(2))))
		for _, k := range []int{widest + 1, widest + 2, 64, -1, math.MaxInt, math.MinInt} {
			if l, err := r.Windows(k); err != api.ErrArg || len(l) > 0 {
				t.Error(fan, k, l, err)
			}
		}
	}
}

// R2, R3: the hours that may be; others are told ahead of bars, and of what is less.
func TestWhichHours(t *testing.T) {
	bad := small(1, 0, 0, 5, 0)
	for _, fan := range []int{2, 3, 16} {
		r := made(t, fan)
		put(t, r, 9, ab, times(1))
		before := see(r)
		for _, h := range []int64{math.MinInt64, -ends, -1, ends, ends + 9, 1 << 40, math.MaxInt64} {
			for _, x := range []api.Tally{times(1), bad, {}} {
				if a, b := r.Put(h, ab, x), r.Take(h, ab, x); a != api.ErrRollupHour || b != api.ErrRollupHour {
					t.Error(h, x, a, b)
				}
			}
		}
		stays(t, "hours that may not be", r, before)
		take(t, r, 9, ab, times(1))
		for _, h := range []int64{0, 1, 1 << 20, ends - 2, ends - 1} {
			put(t, r, h, ab, times(1))
			hours(t, r, h, h+1)
			ranges(t, r, h, h+1, of(ab, times(1)))
			take(t, r, h, ab, times(1))
			hours(t, r, 0, 0)
		}
	}
}

// R2, R3, P15.5: bars that may not be are refused, ahead of what is less, and change nothing.
func TestWhichBars(t *testing.T) {
	bad := [][]api.Bar{
		{{Index: 5}},
		{{Index: -1, Count: 1}},
		{{Index: api.MaxBars, Count: 1}},
		{{Index: 5, Count: 1}, {Index: 5, Count: 1}},
		{{Index: 6, Count: 1}, {Index: 5, Count: 1}},
		{{Index: 5, Count: 1}, {Index: 6}},
		{{Index: math.MaxInt, Count: 1}},
		{{Index: math.MinInt, Count: 1}},
	}
	r := made(t, 3)
	for _, bars := range bad {
		for _, there := range []bool{false, true} {
			before := see(r)
			for _, x := range []api.Tally{{Bars: bars}, {Calls: api.Nat{Lo: 1}, Bars: bars}, {Calls: greatest, Bars: bars}} {
				for _, e := range []api.Edge{ab, ba} {
					if a, b := r.Put(4, e, x), r.Take(4, e, x); a != api.ErrSketchBars || b != api.ErrSketchBars {
						t.Error(x, a, b)
					}
				}
			}
			stays(t, "bars that may not be", r, before)
			if there {
				take(t, r, 4, ab, small(9, 9, 9, 5, 9, 6, 9))
			} else {
				put(t, r, 4, ab, small(9, 9, 9, 5, 9, 6, 9))
			}
		}
	}
	hours(t, r, 0, 0)
}

// R3, P15.5: what is less than is to be taken, in each number and each bar, of the hour and the edge alone; it changes nothing.
func TestLess(t *testing.T) {
	r := made(t, 2)
	whole := small(3, 2, 9, 5, 2, 82, 1)
	put(t, r, 6, ab, whole)
	put(t, r, 7, ab, small(9, 9, 99, 5, 9, 6, 9, 82, 9))
	put(t, r, 6, ba, small(9, 9, 99, 5, 9, 6, 9, 82, 9))
	before := see(r)
	much := api.Tally{Calls: api.Nat{Hi: 1}}
	for _, x := range []api.Tally{small(4, 0, 0), small(0, 3, 0), small(0, 0, 10), small(0, 0, 0, 5, 3), small(0, 0, 0, 82, 2), small(0, 0, 0, 6, 1),
		small(3, 2, 9, 5, 2, 82, 1, 90, 1), small(3, 2, 10, 5, 2, 82, 1), much, {Calls: greatest}} {
		if err := r.Take(6, ab, x); err != api.ErrRollupLess {
			t.Errorf("%v: %v", x, err)
		}
	}
	if err := r.Take(5, ab, small(1, 0, 0)); err != api.ErrRollupLess {
		t.Error(err)
	}
	if err := r.Take(6, edge("b", "b"), small(1, 0, 0)); err != api.ErrRollupLess {
		t.Error(err)
	}
	stays(t, "less", r, before)
	take(t, r, 6, ab, small(1, 1, 4, 5, 1))
	ranges(t, r, 6, 7, of(ab, small(2, 1, 5, 5, 1, 82, 1)), of(ba, small(9, 9, 99, 5, 9, 6, 9, 82, 9)))
	take(t, r, 6, ab, small(2, 1, 5, 5, 1, 82, 1))
	ranges(t, r, 6, 7, of(ba, small(9, 9, 99, 5, 9, 6, 9, 82, 9)))
}

// A tally is nothing only if all of its numbers are, and it has no bars; nothing is no other than none.
func TestNothing(t *testing.T) {
	for fan := 2; fan <= api.MaxFan; fan++ {
		r := made(t, fan)
		before := see(r)
		for _, none := range []api.Tally{{}, {Bars: []api.Bar{}}} {
			put(t, r, 5, ab, none)
			stays(t, "a Put of nothing", r, before)
			take(t, r, 5, ab, none)
			stays(t, "a Take of nothing", r, before)
		}
		for _, x := range []api.Tally{small(1, 0, 0), small(0, 1, 0), small(0, 0, 1), small(0, 0, 0, 7, 1), {Calls: api.Nat{Hi: 1}}, {Errors: api.Nat{Hi: 1}}, {Took: api.Nat{Hi: 1}}} {
			put(t, r, 5, ab, x)
			hours(t, r, 5, 6)
			ranges(t, r, 0, 9, of(ab, x))
			some := see(r)
			put(t, r, 5, ab, api.Tally{})
			put(t, r, 6, ab, api.Tally{})
			put(t, r, 5, ba, api.Tally{})
			take(t, r, 5, ab, api.Tally{})
			take(t, r, 6, ba, api.Tally{})
			stays(t, "nothing beside something", r, some)
			take(t, r, 5, ab, x)
			stays(t, "what was put and taken", r, before)
		}
	}
}

// Edges rise byte by byte, by From, then To; any two texts make one, alike or empty too.
func TestEdgesRise(t *testing.T) {
	want := []api.Edge{edge("", ""), edge("", "\x00"), edge("", "z"), edge("A", "z"), edge("a", ""), edge("a", "a"), edge("a", "a\x00"), edge("a", "aa"), edge("a", "b"),
		edge("a", "\xff"), edge("a\x00", ""), edge("aa", "a"), edge("ab", ""), edge("b", "a"), edge("é", "a"), edge("世", "界"), edge("\xff", ""), edge("\xff", "\xfe"), edge("\xff\xff", "a")}
	r := made(t, 5)
	var all []api.EdgeTally
	for i, e := range slices.Backward(want) {
		put(t, r, 11, e, times(uint64(1+i)))
	}
	for i, e := range want {
		all = append(all, of(e, times(uint64(1+i))))
	}
	ranges(t, r, 0, ends, all...)
	windows(t, r, 0, window(11, 1, all...))
	covers(t, r, 10, 15, window(10, 5, all...))
	for i, e := range want {
		take(t, r, 11, e, times(uint64(1+i)))
		ranges(t, r, 11, 12, all[i+1:]...)
	}
	hours(t, r, 0, 0)
}

// R4: the first hour that has an edge, and the one behind the last.
func TestHours(t *testing.T) {
	r := made(t, 2)
	l := []int64{500, 3, ends - 1, 499, 0, 501, 1 << 20, 1<<20 - 1}
	for i, h := range l {
		put(t, r, h, ab, times(1))
		hours(t, r, slices.Min(l[:i+1]), slices.Max(l[:i+1])+1)
	}
	for i, h := range l[:len(l)-1] {
		take(t, r, h, ab, times(1))
		hours(t, r, slices.Min(l[i+1:]), slices.Max(l[i+1:])+1)
	}
	put(t, r, 1<<20-1, ba, times(1))
	take(t, r, 1<<20-1, ab, times(1))
	hours(t, r, 1<<20-1, 1<<20)
	take(t, r, 1<<20-1, ba, times(1))
	hours(t, r, 0, 0)
}

// R5, R6, R8: the ranges that may be.
func TestWhichRanges(t *testing.T) {
	r := made(t, 16)
	put(t, r, 0, ab, times(1))
	put(t, r, ends-1, ab, times(2))
	for _, c := range [][2]int64{{1, 0}, {9, 8}, {-1, 0}, {-1, -1}, {0, -1}, {-5, 5}, {0, ends + 1}, {ends, ends + 1}, {ends + 1, ends + 1}, {ends, 0},
		{math.MinInt64, 0}, {0, math.MaxInt64}, {math.MinInt64, math.MaxInt64}, {math.MaxInt64, math.MinInt64}, {math.MaxInt64, math.MaxInt64}} {
		if l, err := r.Range(c[0], c[1]); err != api.ErrRollupHour || len(l) > 0 {
			t.Error("Range", c, l, err)
		}
		if l, err := r.Cover(c[0], c[1]); err != api.ErrRollupHour || len(l) > 0 {
			t.Error("Cover", c, l, err)
		}
		for _, top := range [][2]int{{0, 1}, {3, 1}, {0, 1001}, {-1, -1}} { // the hours are told ahead of the rest
			if l, err := r.Top(c[0], c[1], top[0], top[1]); err != api.ErrRollupHour || len(l) > 0 {
				t.Error("Top", c, top, l, err)
			}
		}
	}
	for _, at := range []int64{0, 1, 7, ends - 1, ends} {
		ranges(t, r, at, at)
		covers(t, r, at, at)
		tops(t, r, at, at, 0, 9)
	}
	ranges(t, r, 0, 1, of(ab, times(1)))
	ranges(t, r, 0, ends-1, of(ab, times(1)))
	ranges(t, r, 1, ends-1)
	ranges(t, r, 1, ends, of(ab, times(2)))
	ranges(t, r, 0, ends, of(ab, times(3)))
	tops(t, r, 0, ends, 2, 9, ab)
}

// R6: by which number, of several alike by rising edges, and how many.
func TestTop(t *testing.T) {
	r := made(t, 2)
	a, b, c, d, e := edge("a", "z"), edge("b", "b"), edge("b", "c"), edge("c", ""), edge("d", "d")
	put(t, r, 1, e, small(5, 0, 7, 3, 1))
	put(t, r, 2, d, api.Tally{Calls: api.Nat{Hi: 1}, Errors: api.Nat{Lo: 4}, Took: api.Nat{Lo: most}})
	put(t, r, 3, c, small(5, 4, 0))
	put(t, r, 2, b, small(2, 5, 0))
	put(t, r, 9, b, small(3, 0, 0)) // from two hours: five
	put(t, r, 4, a, api.Tally{Calls: api.Nat{Lo: most}, Took: api.Nat{Hi: 1}})
	put(t, r, 11, a, small(9, 99, 9)) // beyond the range
	tops(t, r, 0, 10, 0, 9, d, a, b, c, e)
	tops(t, r, 0, 10, 1, 9, b, c, d, a, e)
	tops(t, r, 0, 10, 2, 9, a, d, e, b, c)
	tops(t, r, 0, 10, 0, 3, d, a, b)
	tops(t, r, 0, 10, 1, 1, b)
	tops(t, r, 0, 10, 2, 5, a, d, e, b, c)
	tops(t, r, 0, 10, 2, 0)
	tops(t, r, 0, 9, 0, 9, d, a, c, e, b)
	tops(t, r, 0, 12, 1, 2, a, b)
	for _, x := range [][2]int{{3, 1}, {-1, 1}, {math.MaxInt, 1}, {math.MinInt, 0}, {0, -1}, {1, 1001}, {2, math.MaxInt}, {0, math.MinInt}, {3, 1001}} {
		if l, err := r.Top(0, 10, x[0], x[1]); err != api.ErrArg || len(l) > 0 {
			t.Error(x, l, err)
		}
	}
}

// R6: of more than a thousand edges a thousand are told.
func TestTopOfMany(t *testing.T) {
	r := made(t, 7)
	var want []api.Edge
	for i := range 1200 {
		e := edge("s", strconv.Itoa(10000+i))
		put(t, r, int64(i%50), e, small(uint64(i/2), 0, 1))
		want = append(want, e)
	}
	tops(t, r, 0, 50, 2, api.MaxTop, want[:1000]...)
	slices.SortStableFunc(want, func(a, b api.Edge) int {
		x, _ := strconv.Atoi(a.To)
		y, _ := strconv.Atoi(b.To)
		return (y-10000)/2 - (x-10000)/2
	})
	tops(t, r, 0, 50, 0, api.MaxTop, want[:1000]...)
	tops(t, r, 0, 50, 0, 999, want[:999]...)
}

// R7: the windows of each level that have an edge, rising, and the edges of each.
func TestWindows(t *testing.T) {
	r := made(t, 3)
	put(t, r, 30, ab, times(1))
	put(t, r, 2, ba, times(2))
	put(t, r, 0, ab, times(4))
	put(t, r, 8, ba, times(8))
	one := func(n uint64) api.EdgeTally { return of(ab, times(n)) }
	two := func(n uint64) api.EdgeTally { return of(ba, times(n)) }
	windows(t, r, 0, window(0, 1, one(4)), window(2, 1, two(2)), window(8, 1, two(8)), window(30, 1, one(1)))
	windows(t, r, 1, window(0, 3, one(4), two(2)), window(6, 3, two(8)), window(30, 3, one(1)))
	windows(t, r, 2, window(0, 9, one(4), two(10)), window(27, 9, one(1)))
	windows(t, r, 3, window(0, 27, one(4), two(10)), window(27, 27, one(1)))
	windows(t, r, 4, window(0, 81, one(5), two(10)))
	windows(t, r, 14, window(0, 4782969, one(5), two(10)))
	take(t, r, 0, ab, times(4))
	windows(t, r, 1, window(0, 3, two(2)), window(6, 3, two(8)), window(30, 3, one(1)))
	windows(t, r, 2, window(0, 9, two(10)), window(27, 9, one(1)))
	take(t, r, 2, ba, times(2))
	take(t, r, 8, ba, times(8))
	windows(t, r, 2, window(27, 9, one(1)))
	windows(t, r, 4, window(0, 81, one(1)))
	take(t, r, 30, ab, times(1))
	windows(t, r, 0)
	windows(t, r, 14)
}

// R8: the widest windows, from the beginning on.
func TestCover(t *testing.T) {
	r := made(t, 2)
	put(t, r, 5, ab, times(1))
	put(t, r, 7, ab, times(2))
	put(t, r, 7, ba, times(3))
	covers(t, r, 5, 6, window(5, 1, of(ab, times(1))))
	covers(t, r, 4, 8, window(4, 4, of(ab, times(3)), of(ba, times(3))))
	covers(t, r, 5, 8, window(5, 1, of(ab, times(1))), window(6, 2, of(ab, times(2)), of(ba, times(3))))
	covers(t, r, 3, 7, window(3, 1), window(4, 2, of(ab, times(1))), window(6, 1))
	covers(t, r, 0, ends, window(0, ends, of(ab, times(3)), of(ba, times(3))))
	covers(t, r, 0, ends-1<<20, window(0, 1<<20, of(ab, times(3)), of(ba, times(3))))
	covers(t, r, ends-3, ends, window(ends-3, 1), window(ends-2, 2))
	r = made(t, 4) // its widest windows have more hours than may be: 2^20 is the widest that fits
	covers(t, r, 0, ends, window(0, 1<<20), window(1<<20, 1<<20))
	covers(t, r, 1<<20, ends, window(1<<20, 1<<20))
}

// R9: another one is put in, which stays; with itself all is doubled; of another fan it is refused.
func TestMerge(t *testing.T) {
	r, o := made(t, 4), made(t, 4)
	put(t, r, 5, ab, times(1))
	put(t, r, 6, ab, times(2))
	put(t, o, 6, ab, times(4))
	put(t, o, 6, ba, times(8))
	put(t, o, ends-1, ab, times(16))
	other, mine := see(o), see(r)
	if err := r.Merge(nil); err != api.ErrArg {
		t.Error(err)
	}
	for _, fan := range []int{2, 3, 5, 8, 16} {
		p := made(t, fan)
		put(t, p, 5, ab, times(1))
		if err := r.Merge(p); err != api.ErrArg {
			t.Error(fan, err)
		}
		if err := p.Merge(r); err != api.ErrArg {
			t.Error(fan, err)
		}
		windows(t, p, 0, window(5, 1, of(ab, times(1))))
	}
	stays(t, "what is refused", r, mine)
	for range 2 {
		if err := r.Merge(o); err != api.OK {
			t.Fatal(err)
		}
		stays(t, "the other one", o, other)
	}
	windows(t, r, 0, window(5, 1, of(ab, times(1))), window(6, 1, of(ab, times(10)), of(ba, times(16))), window(ends-1, 1, of(ab, times(32))))
	if err := r.Merge(r); err != api.OK {
		t.Fatal(err)
	}
	windows(t, r, 0, window(5, 1, of(ab, times(2))), window(6, 1, of(ab, times(20)), of(ba, times(32))), window(ends-1, 1, of(ab, times(64))))
	windows(t, r, 1, window(4, 4, of(ab, times(22)), of(ba, times(32))), window(ends-4, 4, of(ab, times(64))))
	mine = see(r)
	put(t, o, 6, ab, times(1)) // they have nothing in common behind it
	stays(t, "the first one", r, mine)
	none := made(t, 4)
	if err := r.Merge(none); err != api.OK {
		t.Error(err)
	}
	stays(t, "merged with nothing", r, mine)
	if err := none.Merge(none); err != api.OK {
		t.Error(err)
	}
	if err := none.Merge(r); err != api.OK {
		t.Error(err)
	}
	stays(t, "nothing, merged with it", none, mine)
}

// A window is the sum of its hours as they are now, also where the sum had come to its greatest, and less is there since.
func TestGreatest(t *testing.T) {
	full := []api.Tally{{Calls: greatest}, {Errors: greatest}, {Took: greatest}, {Bars: list(9, most)}, {Calls: greatest, Errors: greatest, Took: greatest, Bars: list(0, most, 9, most, 1919, most)}}
	one := small(1, 1, 1, 0, 1, 9, 1, 1919, 1)
	for fan := 2; fan <= api.MaxFan; fan++ {
		for _, x := range full {
			r := made(t, fan)
			for _, h := range []int64{0, 1, int64(fan * fan), ends - 1} {
				put(t, r, h, ab, one)
			}
			before := see(r)
			put(t, r, 2, ab, x)
			cut, _ := calls.Plus(small(4, 4, 4, 0, 4, 9, 4, 1919, 4), x)
			ranges(t, r, 0, ends, of(ab, cut))
			see(r)
			take(t, r, 2, ab, x)
			stays(t, fmt.Sprint("fan ", fan, " with ", x), r, before)
			ranges(t, r, 0, ends, of(ab, small(4, 4, 4, 0, 4, 9, 4, 1919, 4)))
		}
	}
}

// R3: what an hour's own number lost, when it was cut to its greatest, stays lost: Minus is asked of what the hour has.
func TestGreatestOfAnHour(t *testing.T) {
	r := made(t, 2)
	put(t, r, 3, ab, small(1, 1, 1, 5, 2))
	put(t, r, 3, ab, api.Tally{Calls: greatest, Bars: list(5, most)})
	ranges(t, r, 0, ends, of(ab, api.Tally{Calls: greatest, Errors: api.Nat{Lo: 1}, Took: api.Nat{Lo: 1}, Bars: list(5, most)}))
	take(t, r, 3, ab, api.Tally{Calls: greatest, Bars: list(5, most)})
	ranges(t, r, 0, ends, of(ab, small(0, 1, 1)))
	if err := r.Take(3, ab, small(1, 1, 1, 5, 2)); err != api.ErrRollupLess {
		t.Error(err)
	}
	take(t, r, 3, ab, small(0, 1, 1))
	hours(t, r, 0, 0)
}
