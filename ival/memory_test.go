package ival_test

import (
	"math/rand/v2"
	"slices"
	"testing"

	"spoor/api"
	"spoor/ival"
)

// spare is a list with room behind it, in which other things stand.
func spare(l []api.Interval) []api.Interval {
	room := slices.Concat(l, list(70, 80, 90, 91, 95, 99, 60, 61))
	return room[:len(l)]
}

// calls are all those that take lists.
func calls(a, b []api.Interval) [][]api.Interval {
	ival.Measure(a)
	ival.Has(a, 3)
	return [][]api.Interval{ival.Normal(a), ival.Meet(a, b), ival.Minus(a, b), ival.Normal(b), ival.Meet(b, a), ival.Minus(b, a)}
}

// P3: nothing that is handed in is written into, nor what stands behind it.
func TestArgumentsStay(t *testing.T) {
	lists := [][]api.Interval{nil, list(5, 7, 1, 3, 2, 6), list(1, 3, 5, 9), list(9, 1, 4, 4), list(1, 3, 3, 5, 5, 8), list(least, greatest)}
	for _, first := range lists {
		for _, second := range lists {
			a, b := spare(first), spare(second)
			wantA, wantB := slices.Clone(a[:cap(a)]), slices.Clone(b[:cap(b)])
			calls(a, b)
			if !slices.Equal(a[:cap(a)], wantA) || !slices.Equal(b[:cap(b)], wantB) {
				t.Fatalf("of %v and %v the calls left %v and %v", first, second, a, b)
			}
		}
	}
}

// P3: an answer is new memory, with its spare room, and shares none with another answer or an argument.
func TestAnswersAreNew(t *testing.T) {
	a, b := spare(list(1, 3, 5, 9)), spare(list(2, 6))
	wantA, wantB := slices.Clone(a[:cap(a)]), slices.Clone(b[:cap(b)])
	answers := append(calls(a, b), calls(a, b)...)
	answers = append(answers, ival.Normal(a), ival.Minus(a, nil), ival.Meet(a, a))
	want := make([][]api.Interval, len(answers))
	for i, l := range answers {
		want[i] = slices.Clone(l)
	}
	for i, l := range answers {
		if !slices.Equal(l, want[i]) {
			t.Fatalf("answer %d became %v", i, l)
		}
		for j := range l[:cap(l)] {
			l[:cap(l)][j] = one(-77, 77)
		}
	}
	if !slices.Equal(a[:cap(a)], wantA) || !slices.Equal(b[:cap(b)], wantB) {
		t.Fatalf("answers share memory with %v or %v", a, b)
	}
	for i, l := range calls(a, b) {
		if !slices.Equal(l, want[i]) {
			t.Fatalf("answer %d is %v once answers were written into", i, l)
		}
	}
}

// P3: nothing is kept: what is written into an argument afterwards is not to be seen in an answer.
func TestNothingIsKept(t *testing.T) {
	a, b := list(1, 3, 5, 9), list(2, 6)
	answers := calls(a, b)
	want := make([][]api.Interval, len(answers))
	for i, l := range answers {
		want[i] = slices.Clone(l)
	}
	for _, l := range [][]api.Interval{a, b} {
		for i := range l {
			l[i] = one(-77, 77)
		}
	}
	for i, l := range answers {
		if !slices.Equal(l, want[i]) {
			t.Fatalf("answer %d became %v, not %v", i, l, want[i])
		}
	}
}

// P1: a long list ends soon, be it all apart or all heaped up, with a list of as many taken from it.
func TestLongLists(t *testing.T) {
	const many = 100_000
	var apart, gaps, heap []api.Interval
	for i := range int64(many) {
		apart = append(apart, one(4*i, 4*i+2))
		gaps = append(gaps, one(4*i+1, 4*i+4))
		heap = append(heap, one(-i, i))
	}
	r := rand.New(rand.NewPCG(6, 99))
	for _, l := range [][]api.Interval{apart, gaps, heap} {
		r.Shuffle(len(l), func(i, j int) { l[i], l[j] = l[j], l[i] })
	}
	if n := ival.Measure(apart); n != 2*many {
		t.Errorf("%d moments", n)
	}
	if l := ival.Normal(heap); !same(l, list(-(many-1), many-1)) {
		t.Errorf("a heap of %d intervals", len(l))
	}
	if l := ival.Meet(apart, gaps); len(l) != many || ival.Measure(l) != many || l[1] != one(5, 6) {
		t.Errorf("%d intervals meet", len(l))
	}
	if l := ival.Minus(apart, gaps); len(l) != many || ival.Measure(l) != many || l[1] != one(4, 5) {
		t.Errorf("%d intervals are left", len(l))
	}
	if l := ival.Normal(slices.Concat(apart, gaps)); !same(l, list(0, 4*many)) {
		t.Errorf("%d intervals together", len(l))
	}
}
