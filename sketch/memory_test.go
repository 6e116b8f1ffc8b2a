package sketch_test

import (
	"slices"
	"testing"

	"spoor/api"
	"spoor/sketch"
)

// spare is a list with room behind it, in which other things stand.
func spare(l []api.Bar) []api.Bar {
	room := slices.Concat(l, list(70, 80, 90, 91, 95, 99, 60, 61))
	return room[:len(l)]
}

// calls are the answers of all that take sketches, some of them twice.
func calls(a, b []api.Bar) [][]api.Bar {
	var answers [][]api.Bar
	keep := func(l []api.Bar, e api.Errno) { answers = append(answers, l) }
	keep(sketch.Add(a, 100, 2))
	keep(sketch.Add(a, 100, 0))
	keep(sketch.Add(b, 3, 1))
	keep(sketch.Merge(a, b))
	keep(sketch.Merge(b, a))
	keep(sketch.Merge(a, nil))
	keep(sketch.Merge(nil, a))
	keep(sketch.Merge(a, a))
	keep(sketch.Less(a, b))
	keep(sketch.Less(b, a))
	keep(sketch.Less(a, nil))
	keep(sketch.Less(a, a))
	keep(sketch.Add(a, 100, 0))
	keep(sketch.Merge(a, nil))
	sketch.Check(a)
	sketch.Count(a)
	sketch.Quantile(a, 1, 2)
	return answers
}

func copies(l [][]api.Bar) [][]api.Bar {
	out := make([][]api.Bar, len(l))
	for i := range l {
		out[i] = slices.Clone(l[i])
	}
	return out
}

// spoil writes into a list and into its spare room.
func spoil(l []api.Bar) {
	for i := range l[:cap(l)] {
		l[:cap(l)][i] = api.Bar{Index: -77, Count: 77}
	}
}

// P3: nothing that is handed in is written into, nor what stands behind it, be it refused or not.
func TestArgumentsStay(t *testing.T) {
	lists := append(append(good(), bad()...), list(7, 1, 82, 2), list(82, 1), list(7, 1))
	for _, first := range lists {
		for _, second := range [][]api.Bar{nil, first, list(82, 1), list(7, 0), list(3, most, 82, most), every(1)} {
			a, b := spare(first), spare(second)
			wantA, wantB := slices.Clone(a[:cap(a)]), slices.Clone(b[:cap(b)])
			calls(a, b)
			if !slices.Equal(a[:cap(a)], wantA) || !slices.Equal(b[:cap(b)], wantB) {
				t.Fatalf("of %v and %v the calls left %v and %v", first, second, a, b)
			}
		}
	}
}

// P3: an answer is new memory, with its spare room, and shares none with another answer or an argument.
func TestAnswersAreNew(t *testing.T) {
	for _, pair := range [][2][]api.Bar{{list(7, 1, 82, 2), list(82, 1)}, {list(7, 1), nil}, {every(2), every(1)}, {list(0, most), list(1919, most)}} {
		a, b := spare(pair[0]), spare(pair[1])
		wantA, wantB := slices.Clone(a[:cap(a)]), slices.Clone(b[:cap(b)])
		answers := append(calls(a, b), calls(a, b)...)
		want := copies(answers)
		for i, l := range answers {
			if !slices.Equal(l, want[i]) {
				t.Fatalf("answer %d became %v", i, l)
			}
			spoil(l)
		}
		if !slices.Equal(a[:cap(a)], wantA) || !slices.Equal(b[:cap(b)], wantB) {
			t.Fatalf("answers share memory with %v or %v", a, b)
		}
		for i, l := range calls(a, b) {
			if !slices.Equal(l, want[i]) {
				t.Fatalf("answer %d is %v once answers were written into", i, l)
			}
		}
	}
}

// P3: nothing is kept: what is written into an argument afterwards is not to be seen in an answer.
func TestNothingIsKept(t *testing.T) {
	a, b := spare(list(7, 1, 82, 2)), spare(list(82, 1))
	answers := calls(a, b)
	want := copies(answers)
	spoil(a)
	spoil(b)
	for i, l := range answers {
		if !slices.Equal(l, want[i]) {
			t.Fatalf("answer %d became %v, not %v", i, l, want[i])
		}
	}
}
