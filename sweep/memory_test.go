package sweep_test

import (
	"reflect"
	"slices"
	"testing"

	"spoor/api"
	"spoor/forest"
	"spoor/sweep"
)

// answers are all that the calls tell of a trace with the root 1.
type answers struct {
	legs     []api.Leg
	shares   []api.Share
	services []api.ServiceShare
	hops     []api.Hop
}

func asked(f *forest.Forest) answers {
	var a answers
	a.legs, _ = sweep.Path(f, 1)
	a.shares, _ = sweep.Shares(f, 1)
	a.services, _ = sweep.Services(f, 1)
	a.hops = sweep.Chain(f)
	return a
}

// three has the tree of the chapter's first example, with two that it follows.
func three(t *testing.T) *forest.Forest {
	return built(t, one(1, 0, "web", 0, 10, 6, 7, 9), one(2, 1, "db", 1, 4), one(3, 1, "log", 2, 7), one(4, 1, "db", 7, 9), one(5, 4, "disk", 8, 9),
		one(6, 0, "a", 0, 3), one(7, 0, "b", 2, 6, 6), one(8, 7, "c", 3, 4))
}

func spoil(legs []api.Leg) {
	for i := range legs[:cap(legs)] {
		legs[:cap(legs)][i] = leg(77, 77, 77)
	}
}

// P3: answers are the caller's, with their spare room: nothing that is written into one is seen in another, or in the forest; nor are the lists of one answer one another's.
func TestAnswersAreNew(t *testing.T) {
	f := three(t)
	before := slices.Collect(f.Down())
	first, _ := f.Span(1)
	want, a, b := asked(f), asked(f), asked(f)
	for _, h := range a.hops {
		spoil(h.Legs)
	}
	if got, _ := sweep.Path(f, 1); !slices.Equal(a.legs, got) {
		t.Error("the legs of a hop are those of Path", a.legs)
	}
	spoil(a.legs)
	for i := range a.shares[:cap(a.shares)] {
		a.shares[:cap(a.shares)][i] = share(77, 77)
	}
	for i := range a.services[:cap(a.services)] {
		a.services[:cap(a.services)][i] = service("#", 77)
	}
	for i := range a.hops[:cap(a.hops)] {
		a.hops[:cap(a.hops)][i] = hop(77, 77, 77)
	}
	if !reflect.DeepEqual(b, want) || !reflect.DeepEqual(asked(f), want) {
		t.Error(b, asked(f), want)
	}
	if s, _ := f.Span(1); !reflect.DeepEqual(s, first) || !slices.Equal(slices.Collect(f.Down()), before) {
		t.Error("the forest changed")
	}
}

// P3: what is written into the legs of one hop, and behind them, is not seen in those of another.
func TestHopsHaveTheirOwnLegs(t *testing.T) {
	f := three(t)
	want := sweep.Chain(f)
	if len(want) != 3 {
		t.Fatal(want)
	}
	for i := range want {
		got := sweep.Chain(f)
		spoil(got[i].Legs)
		for j := range got {
			if i != j && !reflect.DeepEqual(got[j], want[j]) {
				t.Error(i, j, got[j], want[j])
			}
		}
	}
}

// P4: what a call answers does not hang on the calls ahead: moments may be asked in any order, between other calls.
func TestAnyOrderOfCalls(t *testing.T) {
	f := three(t)
	want := []api.SpanID{1, 2, 3, 3, 3, 3, 3, 4, 5, 1}
	first := asked(f)
	for _, at := range []int64{9, 0, 8, 4, 5, 2, 3, 1, 9, 9, 0, 7, 6} {
		owns(t, f, 1, at, want[at])
		outside(t, f, 1, 10)
		refused(t, f, 4, api.ErrOwnRoot)
		if a := asked(f); !reflect.DeepEqual(a, first) {
			t.Fatal(a, first)
		}
	}
	for range 50 { // nor on the order of a map
		if a := asked(f); !reflect.DeepEqual(a, first) {
			t.Fatal(a, first)
		}
	}
}
