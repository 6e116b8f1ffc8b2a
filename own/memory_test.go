package own_test

import (
	"reflect"
	"slices"
	"testing"

	"spoor/api"
	"spoor/forest"
	"spoor/own"
)

// answers are all that the calls tell of the chapter's trace.
type answers struct {
	legs     []api.Leg
	times    []api.Own
	services []api.ServiceShare
}

func asked(f *forest.Forest) answers {
	var a answers
	a.legs, _ = own.Legs(f, 1)
	a.times = own.Times(f)
	a.services, _ = own.Services(f, 1)
	return a
}

// P3: answers are the caller's, with their spare room: nothing that is written into one is seen in another, or in the forest.
func TestAnswersAreNew(t *testing.T) {
	f := example(t, 4)
	before := slices.Collect(f.Down())
	want, a, b := asked(f), asked(f), asked(f)
	for i := range a.legs[:cap(a.legs)] {
		a.legs[:cap(a.legs)][i] = leg(77, 77, 77)
	}
	for i := range a.times[:cap(a.times)] {
		a.times[:cap(a.times)][i] = part(77, 77, 77, 77)
	}
	for i := range a.services[:cap(a.services)] {
		a.services[:cap(a.services)][i] = share("#", 77)
	}
	if !reflect.DeepEqual(b, want) || !reflect.DeepEqual(asked(f), want) {
		t.Error(b, asked(f), want)
	}
	if !slices.Equal(slices.Collect(f.Down()), before) {
		t.Error("the forest changed")
	}
	legs(t, f, 1, leg(1, 0, 2), leg(2, 2, 4), leg(3, 4, 9), leg(1, 9, 10))
}

// P4: what a call answers does not hang on the calls ahead: moments may be asked in any order, between other calls.
func TestAnyOrderOfCalls(t *testing.T) {
	f := example(t, 4)
	want := []api.SpanID{1, 1, 2, 2, 3, 3, 3, 3, 3, 1}
	first := asked(f)
	for _, at := range []int64{9, 0, 8, 4, 5, 2, 3, 1, 9, 9, 0, 7, 6} {
		owns(t, f, 1, at, want[at])
		outside(t, f, 1, 10)
		refused(t, f, 4, api.ErrOwnRoot)
		if a := asked(f); !reflect.DeepEqual(a, first) {
			t.Fatal(a, first)
		}
	}
	for range 50 { // nor on the order of a map
		if a := asked(f); !reflect.DeepEqual(a, first) {
			t.Fatal(a, first)
		}
	}
}
