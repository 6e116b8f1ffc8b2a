package engine_test

import (
	"fmt"
	"math/rand/v2"
	"runtime"
	"slices"
	"testing"
	"time"

	"spoor/api"
	"spoor/disk"
	"spoor/halt"
	"spoor/lang"
)

// sound are the queries that may be.
func sound() []api.Query {
	var l []api.Query
	for _, s := range queries {
		if q, err := lang.Parse(s); err == nil {
			l = append(l, q)
		}
	}
	return l
}

// P23.6: Search finds just what match finds, trace by trace, by any number of workers; with a stop it spends the steps, and one of each candidate.
func TestSearch(t *testing.T) {
	for seed := range uint64(12) {
		r := rand.New(rand.NewPCG(236, seed))
		l := someSpans(r, 10*r.IntN(9))
		p := plain{}
		p.put(l...)
		for _, workers := range []int{1, 2, 3, 16} {
			e := opened(t, disk.New(), api.Config{Segment: 64, Fan: 2, Workers: workers})
			for part := range slices.Chunk(l, 7) {
				takes(t, e, part...)
			}
			for i, q := range sound() {
				what := fmt.Sprint("seed ", seed, ", ", workers, " workers, query ", i)
				want := p.hits(q)
				got, n := e.Search(q, nil)
				if n != api.OK || !slices.Equal(got, want) {
					t.Fatalf("%s: %v, %v; not %v", what, got, n, want)
				}
				traces, steps := p.candidates(q)
				for _, budget := range []int{1, steps - 1, steps, steps + traces - 1, steps + traces, steps + traces + 1, 1 << 40} {
					if budget < 1 {
						continue
					}
					stop, _ := halt.New(budget)
					got, n := e.Search(q, stop)
					wanted, left, err := want, budget-steps-traces, api.OK
					switch {
					case budget < steps:
						wanted, left, err = nil, budget, api.ErrHaltBudget
					case left < 0:
						wanted, left, err = nil, budget-steps, api.ErrHaltBudget
					}
					if n != err || !slices.Equal(got, wanted) || stop.Left() != left || stop.Why() != err {
						t.Fatalf("%s: budget %d of %d and %d: %v, %v, left %d", what, budget, steps, traces, got, n, stop.Left())
					}
				}
			}
		}
	}
}

// Each error of Search, the one that is named first.
func TestSearchErrors(t *testing.T) {
	e, _ := filled(t, 6, 40)
	empty := opened(t, disk.New(), small)
	q := parsed(t, `{service = "a"}`)
	wrong := []api.Query{{}, {Set: api.Expr{Op: 99}}, {Set: api.Expr{Op: api.OpBoth}}, {Set: q.Set, Stages: []api.Stage{{Name: "top"}}}, {Set: api.Expr{Op: api.OpSpans, Field: "x"}}}
	for _, w := range wrong {
		gone, _ := halt.New(5)
		gone.Cancel(api.ErrHalted)
		fine, _ := halt.New(5)
		for _, stop := range []*halt.Stop{nil, gone, fine} {
			if l, n := e.Search(w, stop); len(l) > 0 || n != api.ErrLangTree {
				t.Error(w, l, n)
			}
		}
		if fine.Left() != 5 || fine.Why() != api.OK {
			t.Error("a query that is none was spent for")
		}
	}
	for _, why := range []api.Errno{api.ErrHalted, api.ErrWireEnd, -7} {
		stop, _ := halt.New(0)
		stop.Cancel(why)
		if l, n := e.Search(q, stop); len(l) > 0 || n != why {
			t.Error(why, l, n)
		}
		if l, n := empty.Search(q, stop); len(l) > 0 || n != why { // also where there is no candidate
			t.Error(why, l, n)
		}
	}
	above, _ := halt.New(3)
	under, _ := above.Under(1000)
	if l, n := e.Search(q, under); len(l) > 0 || n != api.ErrHaltBudget || above.Why() != api.ErrHaltBudget || under.Left() != 1000 {
		t.Error("what is above a stop is not asked:", l, n)
	}
	none, _ := halt.New(1)
	if l, n := empty.Search(q, none); len(l) > 0 || n != api.OK || none.Left() != 1 {
		t.Error(l, n, none.Left())
	}
}

// A stop that is cancelled while it is spent of tells its reason; what was called then may cancel others.
func TestSearchIsCancelled(t *testing.T) {
	e, p := filled(t, 7, 60)
	stop, _ := halt.New(2)
	called := api.OK
	stop.After(func(why api.Errno) { called = why })
	if _, n := e.Search(parsed(t, `{}`), stop); n != api.ErrHaltBudget || called != n {
		t.Error(n, called)
	}
	p.holds(t, "behind it", e.Ask, 2, questions())
}

// P4: goroutines have ended when Search answers: however often it is asked, none stays. (One that has said so may need a moment to be gone.)
func TestSearchLeavesNobody(t *testing.T) {
	e, _ := filled(t, 8, 80)
	before := runtime.NumGoroutine()
	for range 200 {
		e.Search(parsed(t, `{} | top 1 by self`), nil)
		stop, _ := halt.New(1)
		e.Search(parsed(t, `{}`), stop)
	}
	for range 1000 {
		if runtime.NumGoroutine() <= before {
			return
		}
		time.Sleep(5 * time.Millisecond)
	}
	t.Error(runtime.NumGoroutine(), "goroutines, not", before)
}
