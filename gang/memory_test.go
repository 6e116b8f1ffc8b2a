package gang_test

import (
	"runtime"
	"slices"
	"testing"
	"weak"

	"spoor/api"
	"spoor/gang"
)

// P3: an answer is the caller's, with its spare room; no two share any.
func TestAnswersAreNew(t *testing.T) {
	var elder []int
	for _, n := range []int{1, 2, 3, 10, 33, 100, 1000} {
		l, e := gang.Map(nil, 4, n, square)
		maps(t, "Map", l, e, squares(n), api.OK)
		again, e := gang.Map(nil, 4, n, square)
		for i := range l[:cap(l)] {
			l[:cap(l)][i] = -1
		}
		for i := range elder[:cap(elder)] {
			elder[:cap(elder)][i] = -2
		}
		maps(t, "Map, when others were written into", again, e, squares(n), api.OK)
		elder = again
	}
}

// What f answers is told as it is, whatever it is made of.
func TestAnyType(t *testing.T) {
	type thing struct {
		list []int
		text string
		of   map[int]int
	}
	made := make([]thing, 20)
	for i := range made {
		made[i] = thing{make([]int, i), "x", map[int]int{i: i}}
	}
	f := func(i int) (thing, api.Errno) { return made[i], api.OK }
	l, e := gang.Map(nil, 3, len(made), f)
	if e != api.OK || len(l) != len(made) {
		t.Fatalf("%d answers, %d", len(l), e)
	}
	i := 0
	for x, e := range gang.Each(nil, 3, len(made), f) {
		if e != api.OK || x.text != l[i].text || !slices.Equal(x.list, l[i].list) || x.of[i] != i || l[i].of[i] != i || len(x.list) != i {
			t.Errorf("%d: %v and %v, %d", i, x, l[i], e)
		}
		i++
	}

	none, e := gang.Map(nil, 3, 1000, func(int) (struct{}, api.Errno) { return struct{}{}, api.OK })
	if len(none) != 1000 || e != api.OK {
		t.Errorf("of nothing: %d answers, %d", len(none), e)
	}
	faults, e := gang.Map(nil, 3, 10, func(i int) (error, api.Errno) { return api.Errno(i), api.OK })
	if len(faults) != 10 || faults[9] != api.Errno(9) || e != api.OK {
		t.Errorf("of errors: %v, %d", faults, e)
	}
	for p, e := range gang.Each(nil, 3, 10, func(i int) (*int, api.Errno) { return &i, api.ErrWireEnd }) {
		if p != nil || e != api.ErrWireEnd {
			t.Errorf("beside an error: %v, %d", p, e)
		}
	}
}

// P1: no more is asked for than what f has answered needs, however many numbers there are: all of these would need a million million bytes.
func TestGreatThings(t *testing.T) {
	type great [1 << 20]byte
	for workers := 1; workers <= api.MaxWorkers; workers += 5 {
		l, e := gang.Map(nil, workers, api.MaxJobs, func(i int) (great, api.Errno) {
			if i == 20 {
				return great{}, api.ErrWireEnd
			}
			return great{1}, api.OK
		})
		if l != nil || e != api.ErrWireEnd {
			t.Errorf("%d workers: %d answers, %d", workers, len(l), e)
		}
		for x, e := range gang.Each(nil, workers, api.MaxJobs, func(i int) (great, api.Errno) { return great{1}, api.OK }) {
			if x[0] != 1 || e != api.OK {
				t.Errorf("%d workers: %d, %d", workers, x[0], e)
			}
			break
		}
	}
}

// A stop that outlasts many calls keeps nothing of them.
func TestStopKeepsNothing(t *testing.T) {
	s := made(t, 0)
	var kept []weak.Pointer[[1000]int]
	for round := range 300 {
		own := new([1000]int)
		kept = append(kept, weak.Make(own))
		f := func(i int) (*[1000]int, api.Errno) { return own, api.Errno(i * (round % 2) / 7) }
		gang.Map(s, 4, 10, f)
		for range gang.Each(s, 4, 10, f) {
			if round%3 == 0 {
				break
			}
		}
	}
	gone(t, "many calls")
	runtime.GC()
	runtime.GC()
	left := 0
	for _, p := range kept {
		if p.Value() != nil {
			left++
		}
	}
	if left > 5 {
		t.Errorf("of %d things %d are kept", len(kept), left)
	}
	runtime.KeepAlive(s)
}
