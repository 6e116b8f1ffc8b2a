package sweep_test

import (
	"fmt"
	"math"
	"reflect"
	"slices"
	"testing"

	"spoor/api"
	"spoor/forest"
	"spoor/sweep"
)

func one(id, parent api.SpanID, service string, start, end int64, links ...api.SpanID) api.Span {
	return api.Span{Trace: api.TraceID{Lo: 7}, ID: id, Parent: parent, Service: service, Op: "b", Start: start, End: end, Links: links}
}

func built(t *testing.T, l ...api.Span) *forest.Forest {
	t.Helper()
	f, e := forest.Build(l)
	if e != api.OK || f == nil {
		t.Fatal(f, e)
	}
	return f
}

// example is the tree of the chapter's first example.
func example(t *testing.T) *forest.Forest {
	return built(t, one(1, 0, "web", 0, 10), one(2, 1, "db", 1, 4), one(3, 1, "log", 2, 7), one(4, 1, "db", 7, 9), one(5, 4, "disk", 8, 9))
}

func leg(id api.SpanID, from, to int64) api.Leg { return api.Leg{Owner: id, From: from, To: to} }

func share(id api.SpanID, nanos uint64) api.Share { return api.Share{ID: id, Nanos: nanos} }

func service(name string, nanos uint64) api.ServiceShare {
	return api.ServiceShare{Service: name, Nanos: nanos}
}

func hop(root, from api.SpanID, gap int64, legs ...api.Leg) api.Hop {
	return api.Hop{Root: root, From: from, Gap: gap, Legs: legs}
}

func path(t *testing.T, f *forest.Forest, root api.SpanID, want ...api.Leg) {
	t.Helper()
	if l, e := sweep.Path(f, root); e != api.OK || !slices.Equal(l, want) {
		t.Errorf("Path(%d): %v, %v, not %v", root, l, e, want)
	}
}

// owns: are these the owners of the moments from one on?
func owns(t *testing.T, f *forest.Forest, root api.SpanID, from int64, want ...api.SpanID) {
	t.Helper()
	for i, w := range want {
		at := from + int64(i)
		if id, e := sweep.Owner(f, root, at); id != w || e != api.OK {
			t.Errorf("Owner(%d, %d): %d, %v, not %d", root, at, id, e, w)
		}
	}
}

// outside: does Owner say that these are no moments of the root?
func outside(t *testing.T, f *forest.Forest, root api.SpanID, moments ...int64) {
	t.Helper()
	for _, at := range append(moments, math.MinInt64, -1, math.MaxInt64) {
		if id, e := sweep.Owner(f, root, at); id != 0 || e != api.ErrOwnMoment {
			t.Errorf("Owner(%d, %d): %d, %v", root, at, id, e)
		}
	}
}

func shares(t *testing.T, f *forest.Forest, root api.SpanID, want ...api.Share) {
	t.Helper()
	if l, e := sweep.Shares(f, root); e != api.OK || !slices.Equal(l, want) {
		t.Errorf("Shares(%d): %v, %v, not %v", root, l, e, want)
	}
}

func services(t *testing.T, f *forest.Forest, root api.SpanID, want ...api.ServiceShare) {
	t.Helper()
	if l, e := sweep.Services(f, root); e != api.OK || !slices.Equal(l, want) {
		t.Errorf("Services(%d): %v, %v, not %v", root, l, e, want)
	}
}

// chain: are these the hops? Of legs none may be nil or empty.
func chain(t *testing.T, f *forest.Forest, want ...api.Hop) {
	t.Helper()
	same := func(a, b api.Hop) bool {
		return a.Root == b.Root && a.From == b.From && a.Gap == b.Gap && slices.Equal(a.Legs, b.Legs)
	}
	if l := sweep.Chain(f); !slices.EqualFunc(l, want, same) {
		t.Errorf("Chain: %v, not %v", l, want)
	}
}

// refused: do all calls refuse the root by this error, whatever the moment is, and tell nothing beside it?
func refused(t *testing.T, f *forest.Forest, root api.SpanID, want api.Errno) {
	t.Helper()
	for _, at := range []int64{0, 3, 10, -1, math.MinInt64, math.MaxInt64} {
		if id, e := sweep.Owner(f, root, at); id != 0 || e != want {
			t.Errorf("Owner(%d, %d): %d, %v, not %v", root, at, id, e, want)
		}
	}
	if l, e := sweep.Path(f, root); len(l) != 0 || e != want {
		t.Errorf("Path(%d): %v, %v, not %v", root, l, e, want)
	}
	if l, e := sweep.Shares(f, root); len(l) != 0 || e != want {
		t.Errorf("Shares(%d): %v, %v, not %v", root, l, e, want)
	}
	if l, e := sweep.Services(f, root); len(l) != 0 || e != want {
		t.Errorf("Services(%d): %v, %v, not %v", root, l, e, want)
	}
}

// The chapter's first two examples.
func TestExampleBack(t *testing.T) {
	f := example(t)
	path(t, f, 1, leg(1, 0, 1), leg(2, 1, 2), leg(3, 2, 7), leg(4, 7, 8), leg(5, 8, 9), leg(1, 9, 10))
	shares(t, f, 1, share(1, 2), share(2, 1), share(3, 5), share(4, 1), share(5, 1))
	services(t, f, 1, service("db", 2), service("disk", 1), service("log", 5), service("web", 2))
	owns(t, f, 1, 0, 1, 2, 3, 3, 3, 3, 3, 4, 5, 1)
	outside(t, f, 1, 10, 11)
	for _, id := range []api.SpanID{2, 3, 4, 5} {
		refused(t, f, id, api.ErrOwnRoot)
	}
	chain(t, f, hop(1, 1, 0, leg(1, 0, 1), leg(2, 1, 2), leg(3, 2, 7), leg(4, 7, 8), leg(5, 8, 9), leg(1, 9, 10)))
}

// The chapter's third example: of two that end together the least ID.
func TestExampleTogether(t *testing.T) {
	f := built(t, one(1, 0, "a", 0, 6), one(6, 1, "b", 3, 5), one(2, 1, "c", 3, 5))
	path(t, f, 1, leg(1, 0, 3), leg(2, 3, 5), leg(1, 5, 6))
	shares(t, f, 1, share(1, 4), share(2, 2))
	services(t, f, 1, service("a", 4), service("c", 2))
}

// The chapter's fourth example.
func TestExampleChain(t *testing.T) {
	f := built(t, one(1, 0, "a", 0, 4), one(7, 0, "a", 6, 9, 1, 9))
	chain(t, f, hop(7, 7, 0, leg(7, 6, 9)), hop(1, 1, 2, leg(1, 0, 4)))
}

// The chapter's fifth example.
func TestExampleEmpty(t *testing.T) {
	f := built(t, one(1, 0, "a", 5, 5))
	path(t, f, 1)
	outside(t, f, 1, 4, 5, 6)
	shares(t, f, 1)
	services(t, f, 1)
	chain(t, f, hop(1, 1, 0))
}

// T4, by the trace of the fourth example of DOC.md.
func TestExampleOfTheWhole(t *testing.T) {
	f := built(t, one(1, 0, "web", 0, 100), one(2, 1, "db", 10, 60), one(3, 1, "log", 40, 90))
	path(t, f, 1, leg(1, 0, 10), leg(2, 10, 40), leg(3, 40, 90), leg(1, 90, 100))
}

// ErrArg, of no forest, whatever else is wrong; it has no chain.
func TestNoForest(t *testing.T) {
	for _, root := range []api.SpanID{0, 1, math.MaxUint64} {
		refused(t, nil, root, api.ErrArg)
	}
	chain(t, nil)
}

func TestNoSpans(t *testing.T) {
	f := built(t)
	refused(t, f, 0, api.ErrOwnRoot)
	refused(t, f, 1, api.ErrOwnRoot)
	chain(t, f)
}

// ErrOwnRoot, of a span that is none or no root, also if the moment is outside.
func TestNoRoot(t *testing.T) {
	f := built(t, one(1, 0, "a", 0, 10), one(2, 1, "a", 0, 10), one(3, 2, "a", 0, 10),
		one(4, 9, "a", 0, 10), one(5, 6, "a", 0, 10), one(6, 7, "a", 0, 10), one(7, 5, "a", 0, 10))
	for _, id := range []api.SpanID{0, 2, 3, 6, 7, 8, 9, math.MaxUint64} { // 9 is named, but not there
		refused(t, f, id, api.ErrOwnRoot)
	}
	path(t, f, 1, leg(3, 0, 10)) // Born
	path(t, f, 4, leg(4, 0, 10)) // Orphan
	path(t, f, 5, leg(6, 0, 10)) // Looped: 6 is beneath 7, beneath 5
	for _, root := range []api.SpanID{1, 4, 5} {
		outside(t, f, root, 10)
	}
	shares(t, f, 5, share(6, 10))
}

// A moment is in the root's Clip from its From on, up to its To, that one not; children count by their Clips.
func TestEndsOfTheRoot(t *testing.T) {
	f := built(t, one(1, 0, "a", 5, 8), one(2, 1, "b", 0, 6), one(3, 1, "c", 7, 20))
	outside(t, f, 1, 0, 4, 8, 9, 19)
	owns(t, f, 1, 5, 2, 1, 3)
	path(t, f, 1, leg(2, 5, 6), leg(1, 6, 7), leg(3, 7, 8))
	shares(t, f, 1, share(1, 1), share(2, 1), share(3, 1))
}

// Where ends are cut to the same moment, by the one above or by where the path is, it is the least ID, whichever goes on for longer and whichever began earlier.
func TestCutTogether(t *testing.T) {
	f := built(t, one(1, 0, "a", 0, 10), one(2, 1, "b", 6, 12), one(3, 1, "c", 2, 30)) // by the one above
	path(t, f, 1, leg(1, 0, 2), leg(3, 2, 6), leg(2, 6, 10))
	f = built(t, one(1, 0, "a", 0, 10), one(3, 1, "b", 6, 12), one(2, 1, "c", 2, 30))
	path(t, f, 1, leg(1, 0, 2), leg(2, 2, 10))
	shares(t, f, 1, share(1, 2), share(2, 8))

	// The path comes through 9 down to 6: there 2 and 3 run both, and 4 does not any more.
	f = built(t, one(1, 0, "a", 0, 10), one(9, 1, "b", 6, 10), one(2, 1, "c", 4, 7), one(3, 1, "d", 1, 8), one(4, 1, "e", 0, 5))
	path(t, f, 1, leg(4, 0, 1), leg(3, 1, 4), leg(2, 4, 6), leg(9, 6, 10))
	f = built(t, one(1, 0, "a", 0, 10), one(9, 1, "b", 6, 10), one(3, 1, "c", 4, 7), one(2, 1, "d", 1, 8), one(4, 1, "e", 0, 5))
	path(t, f, 1, leg(4, 0, 1), leg(2, 1, 6), leg(9, 6, 10)) // 3 has nothing
	shares(t, f, 1, share(2, 5), share(4, 1), share(9, 4))
}

// The one that ends last is waited for, whatever its ID, whenever it began; where it begins the path goes on at the one above, not within it.
func TestTheLast(t *testing.T) {
	f := built(t, one(9, 0, "a", 0, 20), one(1, 9, "b", 1, 12), one(5, 9, "c", 3, 6), one(3, 9, "d", 4, 15), one(8, 9, "e", 10, 18))
	path(t, f, 9, leg(9, 0, 1), leg(1, 1, 10), leg(8, 10, 18), leg(9, 18, 20)) // at 10 both 1 and 3 run
	shares(t, f, 9, share(1, 9), share(8, 8), share(9, 3))
	f = built(t, one(9, 0, "a", 0, 20), one(4, 9, "b", 1, 12), one(5, 9, "c", 3, 6), one(3, 9, "d", 7, 15), one(8, 9, "e", 10, 18))
	path(t, f, 9, leg(9, 0, 1), leg(4, 1, 7), leg(3, 7, 10), leg(8, 10, 18), leg(9, 18, 20)) // 5 lies within 4
}

// A span that is come to below its end is gone along from there: what is beneath it, and ends later, is cut to that; what begins later has nothing.
func TestFromWithin(t *testing.T) {
	f := built(t, one(1, 0, "a", 0, 30), one(2, 1, "b", 0, 25), one(3, 1, "c", 10, 30),
		one(4, 2, "d", 5, 15), one(5, 2, "e", 12, 14), one(6, 2, "f", 3, 8), one(7, 4, "g", 8, 11), one(8, 4, "h", 6, 7), one(9, 2, "i", 10, 24))
	path(t, f, 1, leg(2, 0, 3), leg(6, 3, 5), leg(4, 5, 6), leg(8, 6, 7), leg(4, 7, 8), leg(7, 8, 10), leg(3, 10, 30))
	shares(t, f, 1, share(2, 3), share(3, 20), share(4, 2), share(6, 2), share(7, 2), share(8, 1))
	services(t, f, 1, service("b", 3), service("c", 20), service("d", 2), service("f", 2), service("g", 2), service("h", 1))
	owns(t, f, 1, 2, 2, 6, 6, 4, 8, 4, 7, 7, 3)
}

// Children that touch, and children that are empty, wherever they stand: nobody waits for these.
func TestTouch(t *testing.T) {
	f := built(t, one(9, 0, "a", 0, 9), one(2, 9, "b", 0, 3), one(3, 9, "b", 3, 6), one(4, 9, "b", 6, 9), one(5, 2, "c", 1, 1), one(6, 3, "c", 6, 6),
		one(7, 9, "d", 4, 4), one(1, 9, "d", 9, 9), one(8, 9, "d", 0, 0), one(10, 9, "d", 20, 30))
	path(t, f, 9, leg(2, 0, 3), leg(3, 3, 6), leg(4, 6, 9))
	shares(t, f, 9, share(2, 3), share(3, 3), share(4, 3))
	services(t, f, 9, service("b", 9))

	f = built(t, one(3, 0, "a", 0, 9), one(1, 3, "b", 5, 5), one(2, 1, "c", 0, 9)) // 2 is cut to nothing
	path(t, f, 3, leg(3, 0, 9))
}

// Legs of one service that touch are of two spans: they are two.
func TestTwoOfOneService(t *testing.T) {
	f := built(t, one(1, 0, "a", 0, 4), one(2, 1, "a", 1, 3), one(3, 2, "a", 1, 2))
	path(t, f, 1, leg(1, 0, 1), leg(3, 1, 2), leg(2, 2, 3), leg(1, 3, 4))
	shares(t, f, 1, share(1, 2), share(2, 1), share(3, 1))
	services(t, f, 1, service("a", 4))
}

// Trees have nothing to do with one another, though they run at the same time.
func TestTrees(t *testing.T) {
	f := built(t, one(5, 0, "a", 0, 10), one(2, 5, "b", 2, 4), one(3, 77, "b", 3, 12), one(9, 3, "a", 5, 6), one(1, 1, "c", 4, 4), one(7, 8, "d", 1, 9), one(8, 7, "e", 0, 5))
	path(t, f, 5, leg(5, 0, 2), leg(2, 2, 4), leg(5, 4, 10))
	path(t, f, 3, leg(3, 3, 5), leg(9, 5, 6), leg(3, 6, 12))
	path(t, f, 7, leg(8, 1, 5), leg(7, 5, 9))
	path(t, f, 1)
	owns(t, f, 5, 2, 2, 2, 5)
	outside(t, f, 3, 0, 2, 12)
	shares(t, f, 3, share(3, 8), share(9, 1))
	services(t, f, 5, service("a", 8), service("b", 2))
	services(t, f, 3, service("a", 1), service("b", 8))
	shares(t, f, 1)
	services(t, f, 1)
}

// Services stand byte by byte, each once; one whose spans have nothing is left out, one of which a span has nothing is not.
func TestServiceNames(t *testing.T) {
	f := built(t, one(1, 0, "b", 0, 100), one(2, 1, "a", 10, 20), one(3, 2, "b", 12, 14), one(4, 1, "ab", 20, 30),
		one(5, 1, "B", 30, 37), one(6, 1, "é", 40, 41), one(7, 1, "z", 50, 52), one(8, 1, "z.", 60, 63), one(9, 8, "b", 60, 61),
		one(10, 1, "none", 70, 70), one(11, 1, "hidden", 80, 85), one(12, 11, "a", 80, 83), one(13, 11, "ab", 82, 85), one(14, 1, "b", 90, 90))
	services(t, f, 1, service("B", 7), service("a", 10), service("ab", 13), service("b", 65), service("z", 2), service("z.", 2), service("é", 1)) // of a: 8 of the span 2, and 2 of 12; of b: 62 of 1, 2 of 3, and 1 of 9
}

// The first tree of a chain is that of the root that ends last, of several that of the least ID, whenever they begin.
func TestFirstOfTheChain(t *testing.T) {
	chain(t, built(t, one(1, 0, "a", 0, 4), one(2, 0, "a", 3, 5), one(3, 0, "a", 4, 4)), hop(2, 2, 0, leg(2, 3, 5)))
	chain(t, built(t, one(4, 0, "a", 0, 9), one(2, 0, "a", 3, 9), one(3, 0, "a", 1, 9)), hop(2, 2, 0, leg(2, 3, 9)))
	chain(t, built(t, one(4, 0, "a", 0, 9), one(2, 0, "a", 9, 9)), hop(2, 2, 0)) // an empty one has a To, too
	// What is beneath a root does not count, though its interval ends later; nor does why a root is one.
	chain(t, built(t, one(1, 0, "a", 0, 4), one(2, 1, "a", 0, 90), one(3, 77, "a", 1, 5)), hop(3, 3, 0, leg(3, 1, 5)))
	chain(t, built(t, one(1, 0, "a", 0, 4), one(2, 3, "a", 1, 5), one(3, 2, "a", 2, 9)), hop(2, 2, 0, leg(2, 1, 2), leg(3, 2, 5)))
}

// Of the links of a root the one whose Clip ends last, of several the one of the least ID; the gap is from there to the last root, below 0 where they overlap.
func TestNextOfTheChain(t *testing.T) {
	last := one(50, 0, "a", 20, 30, 1, 2, 3, 4, 9, 99)
	f := built(t, last, one(1, 0, "a", 0, 10), one(2, 0, "a", 5, 12), one(3, 0, "a", 5, 12), one(4, 0, "a", 1, 2), one(8, 0, "a", 14, 19), one(9, 1, "a", 0, 90))
	chain(t, f, hop(50, 50, 0, leg(50, 20, 30)), hop(2, 2, 8, leg(2, 5, 12)))
	f = built(t, last, one(1, 0, "a", 0, 25), one(2, 0, "a", 5, 12), one(9, 1, "a", 10, 90)) // 1 and 9 end both at 25
	chain(t, f, hop(50, 50, 0, leg(50, 20, 30)), hop(1, 1, -5, leg(1, 0, 10), leg(9, 10, 25)))
	f = built(t, last, one(10, 0, "a", 0, 25), one(2, 0, "a", 5, 12), one(9, 10, "a", 10, 90))
	chain(t, f, hop(50, 50, 0, leg(50, 20, 30)), hop(10, 9, -5, leg(10, 0, 10), leg(9, 10, 25)))
	f = built(t, last, one(2, 0, "a", 12, 20)) // they touch
	chain(t, f, hop(50, 50, 0, leg(50, 20, 30)), hop(2, 2, 0, leg(2, 12, 20)))
}

// By a span within a tree one comes to its root, from whose beginning and whose links it goes on.
func TestChainGoesOnAtTheRoot(t *testing.T) {
	f := built(t, one(9, 0, "a", 20, 30, 3), one(1, 0, "a", 10, 19, 5), one(2, 1, "a", 11, 15, 6), one(3, 2, "a", 12, 14, 7),
		one(5, 0, "a", 0, 4), one(6, 0, "a", 0, 9), one(7, 0, "a", 0, 8))
	chain(t, f, hop(9, 9, 0, leg(9, 20, 30)),
		hop(1, 3, 6, leg(1, 10, 11), leg(2, 11, 12), leg(3, 12, 14), leg(2, 14, 15), leg(1, 15, 19)),
		hop(5, 5, 6, leg(5, 0, 4)))
}

// No tree comes twice: neither by its root nor by another span, neither at once nor later; the next best link is taken instead.
func TestChainsEnd(t *testing.T) {
	round := built(t, one(1, 0, "a", 0, 9, 3), one(2, 0, "a", 0, 8, 1), one(3, 0, "a", 0, 7, 2))
	chain(t, round, hop(1, 1, 0, leg(1, 0, 9)), hop(3, 3, -7, leg(3, 0, 7)), hop(2, 2, -8, leg(2, 0, 8)))

	within := built(t, one(1, 0, "a", 0, 9, 2), one(2, 1, "a", 0, 8), one(3, 0, "a", 0, 7))
	chain(t, within, hop(1, 1, 0, leg(2, 0, 8), leg(1, 8, 9))) // a link to its own tree

	instead := built(t, one(1, 0, "a", 0, 9, 5), one(2, 1, "a", 0, 8), one(5, 0, "a", 1, 7, 2, 6), one(6, 0, "a", 0, 1))
	chain(t, instead, hop(1, 1, 0, leg(2, 0, 8), leg(1, 8, 9)), hop(5, 5, -7, leg(5, 1, 7)), hop(6, 6, 0, leg(6, 0, 1)))

	none := built(t, one(1, 0, "a", 0, 9, 7, 8), one(2, 0, "a", 0, 8)) // neither is there
	chain(t, none, hop(1, 1, 0, leg(1, 0, 9)))
}

// An empty tree stands in a chain like any other, and it goes on behind it.
func TestEmptyInTheChain(t *testing.T) {
	f := built(t, one(1, 0, "a", 6, 9, 2, 3), one(2, 0, "a", 5, 5, 3), one(3, 0, "a", 0, 4), one(4, 2, "a", 0, 9))
	chain(t, f, hop(1, 1, 0, leg(1, 6, 9)), hop(2, 2, 1), hop(3, 3, 1, leg(3, 0, 4)))
}

// Moments reach from 0 to MaxTime, IDs are numbers of 64 bits without a sign.
func TestEndsOfNumbers(t *testing.T) {
	const most, end = math.MaxUint64, api.MaxTime
	f := built(t, one(most, 0, "a", 0, end), one(1<<63, most, "b", 1, end), one(1<<63-1, most, "c", 2, end), one(1, most, "d", end-1, end-1), one(2, most, "e", end, end))
	path(t, f, most, leg(most, 0, 1), leg(1<<63, 1, 2), leg(1<<63-1, 2, end))
	shares(t, f, most, share(1<<63-1, end-2), share(1<<63, 1), share(most, 1))
	services(t, f, most, service("a", 1), service("b", 1), service("c", end-2))
	outside(t, f, most, end, end+1)
	owns(t, f, most, 0, most, 1<<63, 1<<63-1)
	owns(t, f, most, end-1, 1<<63-1)

	f = built(t, one(1, 0, "a", end, end, most), one(most, 0, "a", 0, 0))
	chain(t, f, hop(1, 1, 0), hop(most, most, end))
	f = built(t, one(1<<63-1, 0, "a", 0, end, 1<<63), one(1<<63, 0, "a", 0, end, 1)) // both end last: the lesser one without a sign is the first
	chain(t, f, hop(1<<63-1, 1<<63-1, 0, leg(1<<63-1, 0, end)), hop(1<<63, 1<<63, -end, leg(1<<63, 0, end)))
}

// A row of spans, each beneath the one ahead, as deep as may be.
func TestDeep(t *testing.T) {
	const n = api.MaxTrace
	var l []api.Span
	var down, up []api.Leg
	var want []api.Share
	for i := range int64(n) {
		id := api.SpanID(i + 1)
		l = append(l, one(id, id-1, "s"+fmt.Sprint(i%10), i, 3*n-i))
		if i < n-1 {
			down, up = append(down, leg(id, i, i+1)), append(up, leg(id, 3*n-i-1, 3*n-i))
			want = append(want, share(id, 2))
		}
	}
	slices.Reverse(up)
	f := built(t, l...)
	path(t, f, 1, append(append(down, leg(n, n-1, 2*n+1)), up...)...)
	shares(t, f, 1, append(want, share(n, n+2))...)
	owns(t, f, 1, n-2, n-1, n, n)
	owns(t, f, 1, 2*n, n, n-1)
	var all []api.ServiceShare
	for i := range 10 {
		all = append(all, service("s"+fmt.Sprint(i), 200))
	}
	all[9].Nanos += n
	services(t, f, 1, all...)
}

// All spans but one are the children of one: side by side, and one behind the other.
func TestWide(t *testing.T) {
	const n = api.MaxTrace
	together, within, behind := []api.Span{one(n, 0, "a", 0, 2*n)}, []api.Span{one(n, 0, "a", 0, 2*n)}, []api.Span{one(n, 0, "a", 0, 2*n)}
	var stair, row []api.Leg
	var shared []api.Share
	for i := range int64(n - 1) {
		id := api.SpanID(n - 1 - i)
		together = append(together, one(id, n, "b", i, n+i)) // each begins and ends behind the one ahead, whose ID is greater
		within = append(within, one(id, n, "b", i, 2*n-1-i))
		behind = append(behind, one(id, n, "b", 2*i+1, 2*i+2))
		stair = append(stair, leg(id, i, i+1))
		row = append(row, leg(n, 2*i, 2*i+1), leg(id, 2*i+1, 2*i+2))
		shared = append(shared, share(api.SpanID(i+1), 1))
	}
	f := built(t, together...)
	stair[n-2].To = 2*n - 2
	path(t, f, n, append(stair, leg(n, 2*n-2, 2*n))...)
	services(t, f, n, service("a", 2), service("b", 2*n-2))

	f = built(t, within...)
	path(t, f, n, leg(n-1, 0, 2*n-1), leg(n, 2*n-1, 2*n))
	shares(t, f, n, share(n-1, 2*n-1), share(n, 1))

	f = built(t, behind...)
	path(t, f, n, append(row, leg(n, 2*n-2, 2*n))...)
	shares(t, f, n, append(shared, share(n, n+1))...)
	services(t, f, n, service("a", n+1), service("b", n-1))
}

// All spans are roots, in one chain: each is linked by the one behind it.
func TestApart(t *testing.T) {
	const n = api.MaxTrace
	var l []api.Span
	var want []api.Hop
	for i := range int64(n) {
		id := api.SpanID(n - i)
		l = append(l, one(id, 0, "a", 3*i, 3*i+2))
		gap := int64(1)
		if i == n-1 {
			gap = 0
		}
		want = append(want, hop(id, id, gap, leg(id, 3*i, 3*i+2)))
		if i > 0 {
			l[i].Links = []api.SpanID{id + 1}
		}
	}
	slices.Reverse(want)
	f := built(t, l...)
	chain(t, f, want...)
	path(t, f, 1, leg(1, 3*n-3, 3*n-1))
	if got := sweep.Chain(f); !reflect.DeepEqual(got, want) {
		t.Error("the legs of a hop are another one's")
	}
}
