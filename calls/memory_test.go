package calls_test

import (
	"slices"
	"testing"

	"spoor/api"
	"spoor/calls"
)

// roomy is a tally whose bars have room behind them, in which other bars stand.
func roomy(a api.Tally) api.Tally {
	room := slices.Concat(a.Bars, list(70, 80, 90, 91, 95, 99))
	a.Bars = room[:len(a.Bars)]
	return a
}

// roomyCalls is a list with room behind it, in which other calls stand.
func roomyCalls(l []api.Call) []api.Call {
	room := slices.Concat(l, []api.Call{call(70, "x", "y", true, 70), call(71, "y", "x", false, 71), call(0, "a", "b", false, 0)})
	return room[:len(l)]
}

// all is a list with all of its spare room, in new memory.
func all[T any](l []T) []T { return slices.Clone(l[:cap(l)]) }

// spoil writes into a list and into its spare room.
func spoil[T any](l []T, with T) {
	for i := range l[:cap(l)] {
		l[:cap(l)][i] = with
	}
}

var (
	wrongBar  = api.Bar{Index: -77, Count: 77}
	wrongCall = call(-77, "#", "#", true, 77)
)

// tallies are the answers of all that take tallies, some of them twice.
func tallies(a, b api.Tally) []api.Tally {
	var l []api.Tally
	keep := func(s api.Tally, e api.Errno) { l = append(l, s) }
	keep(calls.Plus(a, b))
	keep(calls.Plus(b, a))
	keep(calls.Plus(a, a))
	keep(calls.Plus(a, api.Tally{}))
	keep(calls.Plus(api.Tally{}, a))
	keep(calls.Minus(a, b))
	keep(calls.Minus(b, a))
	keep(calls.Minus(a, a))
	keep(calls.Minus(a, api.Tally{}))
	keep(calls.Plus(a, api.Tally{}))
	keep(calls.One(call(0, "a", "b", false, 5)), api.OK)
	keep(calls.One(call(0, "a", "b", false, 5)), api.OK)
	return l
}

func copies(l []api.Tally) []api.Tally {
	l = slices.Clone(l)
	for i := range l {
		l[i].Bars = slices.Clone(l[i].Bars)
	}
	return l
}

// lesser has pairs of which the second one can be taken from the first one, or not, or may not be.
func lesser() [][2]api.Tally {
	a := small(9, 9, 9, 5, 3, 82, 2)
	return [][2]api.Tally{{a, small(1, 1, 1, 82, 1)}, {a, a}, {a, api.Tally{}}, {a, small(1, 1, 1, 5, 3)}, {a, small(10, 0, 0)}, {a, small(1, 1, 1, 83, 1)},
		{a, small(1, 1, 1, 5, 0)}, {small(1, 1, 1, 6, 1, 5, 1), a}, {small(9, 9, 9, 0, most, 5, most), small(1, 0, 5, 5, most)}}
}

// P3: of tallies that are handed in nothing is written into, nor what stands behind it, be they refused or not.
func TestTalliesStay(t *testing.T) {
	for _, pair := range lesser() {
		a, b := roomy(pair[0]), roomy(pair[1])
		wantA, wantB := all(a.Bars), all(b.Bars)
		tallies(a, b)
		if !slices.Equal(all(a.Bars), wantA) || !slices.Equal(all(b.Bars), wantB) {
			t.Fatalf("of %v and %v the calls left %v and %v", pair[0], pair[1], a, b)
		}
	}
}

// P3: a tally that is answered is new memory, with its spare room, and shares none with another answer or an argument; nothing of an argument is kept.
func TestTalliesAreNew(t *testing.T) {
	for _, pair := range lesser() {
		a, b := roomy(pair[0]), roomy(pair[1])
		wantA, wantB := all(a.Bars), all(b.Bars)
		answers := append(tallies(a, b), tallies(a, b)...)
		want := copies(answers)
		for i, s := range answers {
			if !same(s, want[i]) {
				t.Fatalf("answer %d became %v", i, s)
			}
			spoil(s.Bars, wrongBar)
		}
		if !slices.Equal(all(a.Bars), wantA) || !slices.Equal(all(b.Bars), wantB) {
			t.Fatalf("answers share memory with %v or %v", a, b)
		}
		answers = tallies(a, b)
		spoil(a.Bars, wrongBar)
		spoil(b.Bars, wrongBar)
		for i, s := range answers {
			if !same(s, want[i]) {
				t.Fatalf("answer %d is %v, not %v", i, s, want[i])
			}
		}
	}
}

// P3: the same of lists of calls.
func TestListsAreNew(t *testing.T) {
	x, y, z := call(0, "a", "b", false, 1), call(0, "a", "b", false, 2), call(0, "a", "b", true, 0)
	for _, pair := range [][2][]api.Call{{{y, x, x, z}, {x, y, y}}, {{z, y, x}, nil}, {nil, {z, y, x}}, {{x, y, z}, nil}, {{z, y, x}, {x, y, z}}} {
		a, b := roomyCalls(pair[0]), roomyCalls(pair[1])
		wantA, wantB := all(a), all(b)
		take, put := calls.Delta(a, b)
		wantTake, wantPut := slices.Clone(take), slices.Clone(put)
		take2, put2 := calls.Delta(a, b)
		spoil(take, wrongCall)
		lists(t, "to be put", put, wantPut...)
		spoil(put, wrongCall)
		if !slices.Equal(all(a), wantA) || !slices.Equal(all(b), wantB) {
			t.Fatalf("of %v and %v Delta left %v and %v", pair[0], pair[1], a, b)
		}
		spoil(a, wrongCall)
		spoil(b, wrongCall)
		lists(t, "to be taken", take2, wantTake...)
		lists(t, "to be put", put2, wantPut...)
	}
}

// P3: what Of tells is the caller's; the forest stays as it was.
func TestOfIsNew(t *testing.T) {
	f := built(t, spanned(1, 0, "a", 0, 9), spanned(2, 1, "b", 0, 9), spanned(3, 1, "c", 0, 9), spanned(4, 1, "d", 0, 9))
	want := []api.Call{call(0, "a", "b", false, 9), call(0, "a", "c", false, 9), call(0, "a", "d", false, 9)}
	first, second := calls.Of(f), calls.Of(f)
	spoil(first, wrongCall)
	lists(t, "Of", second, want...)
	lists(t, "Of", calls.Of(f), want...)
}
