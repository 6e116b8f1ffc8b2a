package own_test

import (
	"fmt"
	"math"
	"slices"
	"testing"

	"spoor/api"
	"spoor/forest"
	"spoor/own"
)

func one(id, parent api.SpanID, service string, start, end int64) api.Span {
	return api.Span{Trace: api.TraceID{Lo: 7}, ID: id, Parent: parent, Service: service, Op: "b", Start: start, End: end}
}

func built(t *testing.T, l ...api.Span) *forest.Forest {
	t.Helper()
	f, e := forest.Build(l)
	if e != api.OK || f == nil {
		t.Fatal(f, e)
	}
	return f
}

// example is the chapter's trace, in which 3 begins at a moment.
func example(t *testing.T, begin int64) *forest.Forest {
	return built(t, one(1, 0, "web", 0, 10), one(2, 1, "db", 2, 6), one(3, 1, "log", begin, 9), one(4, 2, "disk", 5, 7))
}

func leg(id api.SpanID, from, to int64) api.Leg { return api.Leg{Owner: id, From: from, To: to} }

func part(id api.SpanID, total, exclusive, self uint64) api.Own {
	return api.Own{ID: id, Total: total, Exclusive: exclusive, Self: self}
}

func share(service string, nanos uint64) api.ServiceShare {
	return api.ServiceShare{Service: service, Nanos: nanos}
}

// owns: are these the owners of the moments from one on?
func owns(t *testing.T, f *forest.Forest, root api.SpanID, from int64, want ...api.SpanID) {
	t.Helper()
	for i, w := range want {
		at := from + int64(i)
		if id, e := own.Owner(f, root, at); id != w || e != api.OK {
			t.Errorf("Owner(%d, %d): %d, %v, not %d", root, at, id, e, w)
		}
	}
}

// outside: does Owner say that these are no moments of the root?
func outside(t *testing.T, f *forest.Forest, root api.SpanID, moments ...int64) {
	t.Helper()
	for _, at := range append(moments, math.MinInt64, -1, math.MaxInt64) {
		if id, e := own.Owner(f, root, at); id != 0 || e != api.ErrOwnMoment {
			t.Errorf("Owner(%d, %d): %d, %v", root, at, id, e)
		}
	}
}

func legs(t *testing.T, f *forest.Forest, root api.SpanID, want ...api.Leg) {
	t.Helper()
	if l, e := own.Legs(f, root); e != api.OK || !slices.Equal(l, want) {
		t.Errorf("Legs(%d): %v, %v, not %v", root, l, e, want)
	}
}

func times(t *testing.T, f *forest.Forest, want ...api.Own) {
	t.Helper()
	if l := own.Times(f); !slices.Equal(l, want) {
		t.Errorf("Times: %v, not %v", l, want)
	}
}

func shares(t *testing.T, f *forest.Forest, root api.SpanID, want ...api.ServiceShare) {
	t.Helper()
	if l, e := own.Services(f, root); e != api.OK || !slices.Equal(l, want) {
		t.Errorf("Services(%d): %v, %v, not %v", root, l, e, want)
	}
}

// refused: do all calls refuse the root by this error, whatever the moment is, and tell nothing beside it?
func refused(t *testing.T, f *forest.Forest, root api.SpanID, want api.Errno) {
	t.Helper()
	for _, at := range []int64{0, 3, 10, -1, math.MinInt64, math.MaxInt64} {
		if id, e := own.Owner(f, root, at); id != 0 || e != want {
			t.Errorf("Owner(%d, %d): %d, %v, not %v", root, at, id, e, want)
		}
	}
	if l, e := own.Legs(f, root); len(l) != 0 || e != want {
		t.Errorf("Legs(%d): %v, %v, not %v", root, l, e, want)
	}
	if l, e := own.Services(f, root); len(l) != 0 || e != want {
		t.Errorf("Services(%d): %v, %v, not %v", root, l, e, want)
	}
}

// The chapter's first three examples.
func TestExampleSideBySide(t *testing.T) {
	f := example(t, 4)
	owns(t, f, 1, 0, 1, 1, 2, 2, 3, 3, 3, 3, 3, 1)
	outside(t, f, 1, 10, 11)
	refused(t, f, 2, api.ErrOwnRoot)
	legs(t, f, 1, leg(1, 0, 2), leg(2, 2, 4), leg(3, 4, 9), leg(1, 9, 10))
	times(t, f, part(1, 10, 3, 3), part(2, 4, 3, 2), part(3, 5, 5, 5), part(4, 1, 1, 0))
	shares(t, f, 1, share("db", 2), share("log", 5), share("web", 3)) // disk has 0: it is left out
}

// The chapter's fourth example: of two that begin together the least ID.
func TestExampleTogether(t *testing.T) {
	f := example(t, 2)
	owns(t, f, 1, 0, 1, 1, 2, 2, 2, 4, 3, 3, 3, 1)
	legs(t, f, 1, leg(1, 0, 2), leg(2, 2, 5), leg(4, 5, 6), leg(3, 6, 9), leg(1, 9, 10))
	times(t, f, part(1, 10, 3, 3), part(2, 4, 3, 3), part(3, 7, 7, 3), part(4, 1, 1, 1))
	shares(t, f, 1, share("db", 3), share("disk", 1), share("log", 3), share("web", 3))
}

// The chapter's fifth example.
func TestExampleEmpty(t *testing.T) {
	f := built(t, one(1, 0, "web", 5, 5))
	outside(t, f, 1, 4, 5, 6)
	legs(t, f, 1)
	times(t, f, part(1, 0, 0, 0))
	shares(t, f, 1)
}

// ErrArg, of no forest, whatever else is wrong; Times has nothing to tell.
func TestNoForest(t *testing.T) {
	for _, root := range []api.SpanID{0, 1, math.MaxUint64} {
		refused(t, nil, root, api.ErrArg)
	}
	times(t, nil)
}

func TestNoSpans(t *testing.T) {
	f := built(t)
	times(t, f)
	refused(t, f, 0, api.ErrOwnRoot)
	refused(t, f, 1, api.ErrOwnRoot)
}

// ErrOwnRoot, of a span that is none or no root, also if the moment is outside.
func TestNoRoot(t *testing.T) {
	f := built(t, one(1, 0, "a", 0, 10), one(2, 1, "a", 0, 10), one(3, 2, "a", 0, 10),
		one(4, 9, "a", 0, 10), one(5, 6, "a", 0, 10), one(6, 7, "a", 0, 10), one(7, 5, "a", 0, 10))
	for _, id := range []api.SpanID{0, 2, 3, 6, 7, 8, 9, math.MaxUint64} { // 9 is named, but not there
		refused(t, f, id, api.ErrOwnRoot)
	}
	for _, root := range []api.SpanID{1, 4, 5} { // Born, Orphan, Looped
		outside(t, f, root, 10)
		if l, e := own.Legs(f, root); e != api.OK || len(l) != 1 || l[0].From != 0 || l[0].To != 10 {
			t.Error(root, l, e)
		}
	}
	legs(t, f, 1, leg(3, 0, 10))
	legs(t, f, 4, leg(4, 0, 10))
	legs(t, f, 5, leg(6, 0, 10)) // beneath 7, beneath 5
}

// A moment is in the root's Clip from its From on, up to its To, that one not.
func TestEndsOfTheRoot(t *testing.T) {
	f := built(t, one(1, 0, "a", 5, 8), one(2, 1, "b", 0, 6), one(3, 1, "c", 7, 20))
	outside(t, f, 1, 0, 4, 8, 9, 19)
	owns(t, f, 1, 5, 2, 1, 3)
	legs(t, f, 1, leg(2, 5, 6), leg(1, 6, 7), leg(3, 7, 8))
	times(t, f, part(1, 3, 1, 1), part(2, 1, 1, 1), part(3, 1, 1, 1)) // of the Clips, not of the intervals
}

// A span begins with its Clip: of two that were cut at the same moment it is the least ID that goes ahead, whichever began later.
func TestCutTogether(t *testing.T) {
	f := built(t, one(1, 0, "a", 10, 20), one(2, 1, "b", 3, 15), one(3, 1, "c", 8, 18))
	legs(t, f, 1, leg(2, 10, 15), leg(3, 15, 18), leg(1, 18, 20))
	f = built(t, one(1, 0, "a", 10, 20), one(3, 1, "b", 3, 15), one(2, 1, "c", 8, 18))
	legs(t, f, 1, leg(2, 10, 18), leg(1, 18, 20))
}

// The one that began later goes ahead whatever its ID, whenever the others end; where it ends, those that still run have their moments again.
func TestTheLater(t *testing.T) {
	f := built(t, one(9, 0, "a", 0, 20), one(1, 9, "b", 1, 18), one(5, 9, "c", 3, 6), one(3, 9, "d", 4, 10), one(8, 9, "e", 5, 8))
	legs(t, f, 9, leg(9, 0, 1), leg(1, 1, 3), leg(5, 3, 4), leg(3, 4, 5), leg(8, 5, 8), leg(3, 8, 10), leg(1, 10, 18), leg(9, 18, 20))
	times(t, f, part(1, 17, 17, 10), part(3, 6, 6, 3), part(5, 3, 3, 1), part(8, 3, 3, 3), part(9, 20, 3, 3))
	owns(t, f, 9, 0, 9, 1, 1, 5, 3, 8, 8, 8, 3, 3, 1)
}

// What stands beneath one that does not go ahead has nothing meanwhile, although it goes on; and is as it must be when that one has its moments again.
func TestHiddenMeanwhile(t *testing.T) {
	f := built(t, one(1, 0, "a", 0, 30), one(2, 1, "b", 0, 30), one(3, 1, "c", 10, 20),
		one(4, 2, "d", 5, 15), one(5, 2, "e", 12, 14), one(6, 2, "f", 16, 25), one(7, 6, "g", 17, 22), one(8, 6, "h", 18, 21), one(9, 2, "i", 11, 28))
	legs(t, f, 1, leg(2, 0, 5), leg(4, 5, 10), leg(3, 10, 20), leg(8, 20, 21), leg(7, 21, 22), leg(6, 22, 25), leg(9, 25, 28), leg(2, 28, 30))
	times(t, f, part(1, 30, 0, 0), part(2, 30, 7, 7), part(3, 10, 10, 10), part(4, 10, 10, 5), part(5, 2, 2, 0),
		part(6, 9, 4, 3), part(7, 5, 5, 1), part(8, 3, 3, 1), part(9, 17, 17, 3))
}

// Children that touch: no moment lies between them, and a stretch is not cut where another span's ends.
func TestTouch(t *testing.T) {
	f := built(t, one(1, 0, "a", 0, 9), one(2, 1, "b", 0, 3), one(3, 1, "b", 3, 6), one(4, 1, "b", 6, 9), one(5, 2, "c", 1, 1), one(6, 3, "c", 5, 5), one(7, 1, "d", 4, 4))
	legs(t, f, 1, leg(2, 0, 3), leg(3, 3, 6), leg(4, 6, 9)) // 5, 6 and 7 are empty
	times(t, f, part(1, 9, 0, 0), part(2, 3, 3, 3), part(3, 3, 3, 3), part(4, 3, 3, 3), part(5, 0, 0, 0), part(6, 0, 0, 0), part(7, 0, 0, 0))
	shares(t, f, 1, share("b", 9))

	// 2 and 4 run beneath 3, which goes ahead: their ends cut nothing.
	f = built(t, one(1, 0, "a", 0, 20), one(2, 1, "b", 2, 8), one(3, 1, "c", 3, 12), one(4, 2, "d", 4, 6))
	legs(t, f, 1, leg(1, 0, 2), leg(2, 2, 3), leg(3, 3, 12), leg(1, 12, 20))
}

// Trees have nothing to do with one another, though they run at the same time; Times tells of all of them.
func TestTrees(t *testing.T) {
	f := built(t, one(5, 0, "a", 0, 10), one(2, 5, "b", 2, 4), one(3, 77, "b", 3, 12), one(9, 3, "a", 5, 6), one(1, 1, "c", 4, 4), one(7, 8, "d", 1, 9), one(8, 7, "e", 0, 5))
	legs(t, f, 5, leg(5, 0, 2), leg(2, 2, 4), leg(5, 4, 10))
	legs(t, f, 3, leg(3, 3, 5), leg(9, 5, 6), leg(3, 6, 12))
	legs(t, f, 7, leg(8, 1, 5), leg(7, 5, 9))
	legs(t, f, 1)
	owns(t, f, 5, 2, 2, 2, 5, 5, 5)
	owns(t, f, 3, 3, 3, 3, 9, 3)
	outside(t, f, 3, 0, 2, 12)
	shares(t, f, 5, share("a", 8), share("b", 2))
	shares(t, f, 3, share("a", 1), share("b", 8))
	shares(t, f, 1)
	times(t, f, part(1, 0, 0, 0), part(2, 2, 2, 2), part(3, 9, 8, 8), part(5, 10, 8, 8), part(7, 8, 4, 4), part(8, 4, 4, 4), part(9, 1, 1, 1))
}

// Services stand byte by byte, each once, however its spans lie in the tree; one whose spans own nothing is left out, one of which a span owns nothing is not.
func TestServiceNames(t *testing.T) {
	f := built(t, one(1, 0, "b", 0, 100), one(2, 1, "a", 10, 20), one(3, 2, "b", 12, 14), one(4, 1, "ab", 20, 30),
		one(5, 1, "B", 30, 37), one(6, 1, "é", 40, 41), one(7, 1, "z", 50, 52), one(8, 1, "z.", 60, 63), one(9, 8, "b", 60, 61),
		one(10, 1, "none", 70, 70), one(11, 1, "hidden", 80, 85), one(12, 11, "a", 80, 83), one(13, 11, "ab", 82, 85), one(14, 1, "b", 90, 90))
	shares(t, f, 1, share("B", 7), share("a", 10), share("ab", 13), share("b", 65), share("z", 2), share("z.", 2), share("é", 1)) // of a: 8 of the span 2, and 2 of 12; of b: 62 of 1, 2 of 3, and 1 of 9
	f = built(t, one(1, 0, "a", 0, 4), one(2, 1, "b", 0, 4))
	shares(t, f, 1, share("b", 4))
}

// Moments reach from 0 to MaxTime, IDs are numbers of 64 bits without a sign.
func TestEndsOfNumbers(t *testing.T) {
	const most, end = math.MaxUint64, api.MaxTime
	f := built(t, one(most, 0, "a", 0, end), one(1<<63, most, "b", 1, end), one(1<<63-1, most, "c", 1, end-1), one(1, most, "d", end-1, end), one(2, most, "e", end, end))
	legs(t, f, most, leg(most, 0, 1), leg(1<<63-1, 1, end-1), leg(1, end-1, end))
	times(t, f, part(1, 1, 1, 1), part(2, 0, 0, 0), part(1<<63-1, end-2, end-2, end-2), part(1<<63, end-1, end-1, 0), part(most, end, 1, 1))
	shares(t, f, most, share("a", 1), share("c", end-2), share("d", 1))
	outside(t, f, most, end, end+1)
	owns(t, f, most, 0, most, 1<<63-1)
	owns(t, f, most, end-2, 1<<63-1, 1)
}

// A row of spans, each beneath the one ahead, as deep as may be.
func TestDeep(t *testing.T) {
	const n = api.MaxTrace
	var l []api.Span
	var down, up []api.Leg
	var want []api.Own
	for i := range int64(n) {
		id := api.SpanID(i + 1)
		l = append(l, one(id, id-1, "s"+fmt.Sprint(i%10), i, 3*n-i))
		if i < n-1 {
			down, up = append(down, leg(id, i, i+1)), append(up, leg(id, 3*n-i-1, 3*n-i))
			want = append(want, part(id, uint64(3*n-2*i), 2, 2))
		}
	}
	slices.Reverse(up)
	f := built(t, l...)
	legs(t, f, 1, append(append(down, leg(n, n-1, 2*n+1)), up...)...)
	times(t, f, append(want, part(n, n+2, n+2, n+2))...)
	owns(t, f, 1, n-2, n-1, n, n)
	owns(t, f, 1, 2*n, n, n-1)
	var all []api.ServiceShare
	for i := range 10 {
		all = append(all, share("s"+fmt.Sprint(i), 200))
	}
	all[9].Nanos += n
	shares(t, f, 1, all...)
}

// All spans but one are the children of one: side by side, and one behind the other.
func TestWide(t *testing.T) {
	const n = api.MaxTrace
	together, behind := []api.Span{one(n, 0, "a", 0, 2*n)}, []api.Span{one(n, 0, "a", 0, 2*n)}
	var stair, row []api.Leg
	var stairTimes, rowTimes []api.Own
	for i := range int64(n - 1) {
		id := api.SpanID(i + 1)
		together = append(together, one(id, n, "b", i, 2*n-1-i)) // each lies within the one ahead
		behind = append(behind, one(id, n, "b", 2*i+1, 2*i+2))
		stair = append(stair, leg(id, i, i+1))
		row = append(row, leg(n, 2*i, 2*i+1), leg(id, 2*i+1, 2*i+2))
		stairTimes = append(stairTimes, part(id, uint64(2*n-1-2*i), uint64(2*n-1-2*i), 2))
		rowTimes = append(rowTimes, part(id, 1, 1, 1))
	}
	stair[n-2].To, stairTimes[n-2].Self = n+1, 3
	for i := int64(n - 3); i >= 0; i-- {
		stair = append(stair, leg(api.SpanID(i+1), 2*n-2-i, 2*n-1-i))
	}
	f := built(t, together...)
	legs(t, f, n, append(stair, leg(n, 2*n-1, 2*n))...)
	times(t, f, append(stairTimes, part(n, 2*n, 1, 1))...)
	shares(t, f, n, share("a", 1), share("b", 2*n-1))

	f = built(t, behind...)
	legs(t, f, n, append(row, leg(n, 2*n-2, 2*n))...)
	times(t, f, append(rowTimes, part(n, 2*n, n+1, n+1))...)
	shares(t, f, n, share("a", n+1), share("b", n-1))
}

// All spans are roots.
func TestApart(t *testing.T) {
	var l []api.Span
	var want []api.Own
	for i := range int64(api.MaxTrace) {
		id := api.SpanID(i + 1)
		l = append(l, one(id, 0, "a", i%7, i))
		if i < 7 {
			l[i].Start = i
		}
		self := uint64(l[i].End - l[i].Start)
		want = append(want, part(id, self, self, self))
	}
	f := built(t, l...)
	times(t, f, want...)
	legs(t, f, 1)
	legs(t, f, 500, leg(500, 499%7, 499))
}
