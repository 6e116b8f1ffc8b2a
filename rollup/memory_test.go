package rollup_test

import (
	"slices"
	"strconv"
	"testing"

	"spoor/api"
	"spoor/calls"
	"spoor/rollup"
)

// roomy is a tally whose bars have room behind them, in which other bars stand.
func roomy(a api.Tally) api.Tally {
	room := slices.Concat(a.Bars, list(70, 80, 90, 91, 95, 99))
	a.Bars = room[:len(a.Bars)]
	return a
}

// all is a list with all of its spare room, in new memory.
func all[T any](l []T) []T { return slices.Clone(l[:cap(l)]) }

// spoil writes into a list and into its spare room.
func spoil[T any](l []T, with T) {
	for i := range l[:cap(l)] {
		l[:cap(l)][i] = with
	}
}

func spoilEdges(l []api.EdgeTally) {
	for _, x := range l[:cap(l)] {
		spoil(x.Tally.Bars, api.Bar{Index: -77, Count: 77})
	}
	spoil(l, of(edge("#", "#"), small(77, 77, 77, 77, 77)))
}

func spoilWindows(l []api.Window) {
	for _, w := range l[:cap(l)] {
		spoilEdges(w.Edges)
	}
	spoil(l, window(-77, 77, of(edge("#", "#"), small(77, 77, 77))))
}

// P3: a tally that is handed in is neither written into nor kept, be it refused or not.
func TestTalliesStay(t *testing.T) {
	for _, x := range []api.Tally{times(3), small(1, 1, 1, 5, 1, 70, 2, 1919, 3), small(1, 0, 0, 5, 0), small(9, 9, 9, 6, 1, 5, 1), {}} {
		for _, there := range []api.Tally{{}, small(9, 9, 99, 5, 9, 70, 9, 1919, 9)} {
			x := roomy(x)
			want := all(x.Bars)
			r := made(t, 2)
			put(t, r, 3, ab, there)
			r.Put(3, ab, x)
			r.Put(2, ab, x)
			r.Put(2, ba, x)
			r.Take(3, ab, x)
			r.Take(2, ba, x)
			r.Put(9, ba, x)
			if !slices.Equal(all(x.Bars), want) {
				t.Fatalf("%v was written into", x)
			}
			before := copied(see(r))
			spoil(x.Bars, api.Bar{Index: -77, Count: 77})
			stays(t, "its bars are kept", r, before)
		}
	}
}

// copied is what was seen, in new memory.
func copied(s seen) seen {
	levels := make([][]api.Window, len(s.levels))
	for k, l := range s.levels {
		levels[k] = slices.Clone(l)
		for i := range l {
			levels[k][i].Edges = copiedEdges(l[i].Edges)
		}
	}
	s.levels = levels
	return s
}

func copiedEdges(l []api.EdgeTally) []api.EdgeTally {
	l = slices.Clone(l)
	for i := range l {
		l[i].Tally.Bars = slices.Clone(l[i].Tally.Bars)
	}
	return l
}

// filled has edges in one hour alone, whose wide windows are that hour's sums, and in several.
func filled(t *testing.T) *rollup.Rollup {
	r := made(t, 2)
	put(t, r, 3, ab, small(1, 1, 1, 5, 1, 70, 2))
	put(t, r, 3, ba, small(1, 1, 1, 6, 1, 71, 2))
	put(t, r, 900, ba, small(2, 2, 2, 5, 1, 71, 2, 80, 1))
	return r
}

// P3: what is told is the caller's, with its spare room: neither the rollup nor another answer, nor another list of the same one, has part in it.
func TestAnswersAreNew(t *testing.T) {
	r := filled(t)
	before := copied(see(r))
	answers := func() (windows [][]api.Window, edges [][]api.EdgeTally) {
		for _, c := range [][2]int64{{0, 4}, {0, ends}, {3, 901}, {3, 4}} {
			l, _ := r.Cover(c[0], c[1])
			windows = append(windows, l)
			for by := range 3 {
				l, _ := r.Top(c[0], c[1], by, 1+by)
				edges = append(edges, l)
			}
			x, _ := r.Range(c[0], c[1])
			edges = append(edges, x)
		}
		return append(windows, see(r).levels...), edges
	}
	windows, edges := answers()
	wantWindows, _ := answers()
	_, wantEdges := answers()
	for i, l := range windows {
		if !sameWindows(l, wantWindows[i]) {
			t.Fatalf("answer %d became %v, not %v", i, l, wantWindows[i])
		}
		spoilWindows(l)
		stays(t, "windows", r, before)
	}
	for i, l := range edges {
		if !sameEdges(l, wantEdges[i]) {
			t.Fatalf("answer %d became %v, not %v", i, l, wantEdges[i])
		}
		spoilEdges(l)
		stays(t, "edges", r, before)
	}
	list, _ := r.Windows(0) // the lists of one answer
	want := copied(seen{levels: [][]api.Window{list}}).levels[0]
	for i := range list {
		spoilEdges(list[i].Edges)
		if !sameWindows(list[i+1:], want[i+1:]) {
			t.Fatal("two windows of one answer share memory:", list[i+1:])
		}
	}
	told, _ := r.Range(0, ends)
	behind := copiedEdges(told[1:])
	spoil(told[0].Tally.Bars, api.Bar{Index: -77, Count: 77})
	if !sameEdges(told[1:], behind) {
		t.Fatal("two edges of one answer share memory:", told[1:])
	}
}

// What was told stays as it was when tallies are put, taken and merged behind it.
func TestToldStays(t *testing.T) {
	r := filled(t)
	o := made(t, 2)
	if err := o.Merge(r); err != api.OK {
		t.Fatal(err)
	}
	told := see(r)
	want := copied(told)
	other := copied(see(o))
	put(t, r, 3, ab, small(1, 0, 0, 5, 7))
	see(r)
	take(t, r, 3, ba, small(1, 1, 1, 6, 1, 71, 2))
	see(r)
	r.Merge(r)
	see(r)
	if !told.same(want) {
		t.Fatalf("%v, not %v", told, want)
	}
	stays(t, "the one that it was merged into", o, other)
}

// Many hours, and many edges of one hour, are put, told and taken soon.
func TestMany(t *testing.T) {
	for _, fan := range []int{2, 16} {
		r := made(t, fan)
		none := see(r)
		var l []step
		for i := range 20000 {
			x := step{int64(i * 97), ab, calls.One(api.Call{Took: 1 << (i % 64)})}
			if i%2 == 0 {
				x.hour, x.edge = 5, edge("a", strconv.Itoa(i))
			}
			l = append(l, x)
			put(t, r, x.hour, x.edge, x.tally)
		}
		told, _ := r.Range(0, ends)
		if len(told) != 10001 {
			t.Fatal(len(told))
		}
		for _, x := range l {
			take(t, r, x.hour, x.edge, x.tally)
		}
		stays(t, "all are taken", r, none)
	}
}
