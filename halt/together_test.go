package halt_test

import (
	"runtime"
	"sync"
	"sync/atomic"
	"testing"
	"weak"

	"spoor/api"
	"spoor/halt"
)

// H9, P3.3: of one budget just so many steps are spent, whoever spends them, however deep.
func TestBudgetTogether(t *testing.T) {
	for range 20 {
		a := made(t, 3000)
		var spent [8]int
		var wait sync.WaitGroup
		for i := range spent {
			s := under(t, under(t, a, 0), 1000)
			wait.Go(func() {
				for n := 0; s.Spend(n%3) == api.OK; n++ {
					spent[i] += n % 3
				}
				if left := s.Left(); left != 1000-spent[i] {
					t.Errorf("%d are left of 1000, and %d were spent", left, spent[i])
				}
			})
		}
		wait.Wait()
		all := 0
		for _, n := range spent {
			all += n
		}
		if all > 3000 || a.Left() != 3000-all || a.Why() != api.ErrHaltBudget {
			t.Errorf("%d were spent of 3000, %d are left, reason %d", all, a.Left(), a.Why())
		}
	}
}

// H9, P3.2, P3.4: of several reasons one stays, all answer it, and each function is called once, with it.
func TestReasonsTogether(t *testing.T) {
	for range 300 {
		a := made(t, 0)
		b := under(t, a, 0)
		var called atomic.Int64
		b.After(func(why api.Errno) { called.Add(int64(why)) })
		var got [8]api.Errno
		var wait sync.WaitGroup
		for i := range got {
			wait.Go(func() { got[i] = b.Cancel(api.Errno(100 + i)) })
		}
		wait.Wait()
		for _, why := range got {
			answers(t, "Cancel", why, b.Why())
		}
		if called.Load() != int64(b.Why()) {
			t.Errorf("called with %d, reason %d", called.Load(), b.Why())
		}
		is(t, "a", a, api.OK, -1)
	}
}

// P3.2: whoever sees a stop cancelled, by its reason or by its channel, sees all beneath cancelled.
func TestSeenTogether(t *testing.T) {
	for round := range 300 {
		a := made(t, 0)
		row := []*halt.Stop{a}
		for i := range 40 {
			row = append(row, under(t, row[i], 0))
		}
		var wait sync.WaitGroup
		for range 4 {
			wait.Go(func() {
				for !closed(row[40].Done()) {
					for i := range 40 {
						if closed(row[i].Done()) && !closed(row[i+1].Done()) {
							t.Error("closed, and not what is under it")
						}
						if row[i].Why() != api.OK && row[i+1].Why() == api.OK {
							t.Error("cancelled, and not what is under it")
						}
					}
				}
			})
		}
		row[round%41].Cancel(5)
		a.Cancel(6)
		wait.Wait()
	}
}

// P3.2: so too where there are many beneath: when a channel is closed, those of all beneath are.
func TestClosedTogether(t *testing.T) {
	a := made(t, 0)
	var last *halt.Stop
	for range 50000 {
		last = under(t, a, 0)
	}
	top, beneath := a.Done(), last.Done()
	var ready, wait sync.WaitGroup
	for range 2 {
		ready.Add(1)
		wait.Go(func() {
			ready.Done()
			for !closed(top) {
			}
			if !closed(beneath) {
				t.Error("closed, and not what is under it")
			}
		})
	}
	ready.Wait()
	a.Cancel(5)
	wait.Wait()
}

// H2, H9: what is made under a stop while that is cancelled is cancelled too.
func TestUnderTogether(t *testing.T) {
	for range 300 {
		a := made(t, 0)
		var stops [4][]*halt.Stop
		var wait sync.WaitGroup
		for i := range stops {
			wait.Go(func() {
				for s := a; len(stops[i]) < 50; {
					s, _ = s.Under(0)
					stops[i] = append(stops[i], s)
				}
			})
		}
		a.Cancel(7)
		wait.Wait()
		for _, row := range stops {
			for _, s := range row {
				is(t, "made meanwhile", s, 7, -1)
			}
		}
	}
}

// H6, P3.4: each function is either called once or taken back once, while its stop is cancelled.
func TestBackTogether(t *testing.T) {
	for range 200 {
		a := made(t, 0)
		const n = 200
		var called, back [n]atomic.Int32
		var backs [n]func() bool
		for i := range n {
			backs[i] = a.After(func(api.Errno) { called[i].Add(1) })
		}
		var wait sync.WaitGroup
		for range 3 {
			wait.Go(func() {
				for i := n - 1; i >= 0; i-- {
					if backs[i]() {
						back[i].Add(1)
					}
				}
			})
		}
		a.Cancel(3)
		for i := range n {
			if called[i].Load() == 0 && backs[i]() {
				t.Error("neither called nor taken back when Cancel has answered")
			}
		}
		wait.Wait()
		for i := range n {
			if called[i].Load()+back[i].Load() != 1 {
				t.Errorf("%d: called %d times, taken back %d times", i, called[i].Load(), back[i].Load())
			}
		}
	}
}

// H6, H9: what After is handed while its stop is cancelled is called once, by the one or the other.
func TestAfterTogether(t *testing.T) {
	for range 300 {
		a := made(t, 0)
		var called atomic.Int32
		var wait sync.WaitGroup
		for range 4 {
			wait.Go(func() {
				for range 20 {
					a.After(func(why api.Errno) { called.Add(int32(why)) })
				}
			})
		}
		a.Cancel(1)
		wait.Wait()
		if called.Load() != 80 {
			t.Errorf("%d calls, not 80", called.Load())
		}
	}
}

// H9: while a function is called, no stop is held: other hands may use each of them, and their calls answer meanwhile.
func TestNothingHeld(t *testing.T) {
	a := made(t, 5)
	b := under(t, a, 0)
	look := func(s *halt.Stop, why api.Errno) {
		var wait sync.WaitGroup
		wait.Go(func() { is(t, "meanwhile", s, why, s.Left()) })
		wait.Go(func() { answers(t, "Cancel meanwhile", s.Cancel(99), why) })
		wait.Go(func() { answers(t, "Spend meanwhile", s.Spend(99), why) })
		wait.Go(func() { is(t, "Under meanwhile", under(t, s, 0), why, -1) })
		wait.Go(func() {
			called := false
			if s.After(func(api.Errno) { called = true })() || !called {
				t.Error("After meanwhile")
			}
		})
		wait.Wait()
	}
	both := func(why api.Errno) { look(a, why); look(b, why) }
	a.After(both)
	b.After(both)
	answers(t, "Spend", b.Spend(6), api.ErrHaltBudget)
	b.After(both)
}

// H3, H5: who comes second has the reason at once; who cancelled has it when the last function has answered.
func TestSecondDoesNotWait(t *testing.T) {
	a := made(t, 0)
	begun, goOn := make(chan struct{}), make(chan struct{})
	a.After(func(api.Errno) { close(begun); <-goOn })
	last := false
	a.After(func(api.Errno) { last = true })
	var wait sync.WaitGroup
	wait.Go(func() {
		answers(t, "Cancel", a.Cancel(4), 4)
		if !last {
			t.Error("it answers ahead of the last function")
		}
	})
	<-begun
	answers(t, "the second Cancel", a.Cancel(5), 4)
	answers(t, "a Spend", a.Spend(1), 4)
	close(goOn)
	wait.Wait()
}

// Goroutines that wait at a channel are woken, whichever stop above it is cancelled.
func TestWoken(t *testing.T) {
	a := made(t, 0)
	var wait sync.WaitGroup
	for range 10 {
		s := under(t, under(t, a, 0), 0)
		wait.Go(func() {
			<-s.Done()
			answers(t, "Why of one that is closed", s.Why(), 8)
		})
	}
	a.Cancel(8)
	wait.Wait()
}

// held counts those of the things that are still kept by something.
func held[T any](things []weak.Pointer[T]) int {
	runtime.GC()
	n := 0
	for _, thing := range things {
		if thing.Value() != nil {
			n++
		}
	}
	return n
}

// A stop that lives long keeps neither functions that were taken back or called, nor stops that were cancelled.
func TestKeepsNoMore(t *testing.T) {
	a := made(t, 0)
	var all []weak.Pointer[[1000]int]
	hand := func(s *halt.Stop) func() bool {
		thing := new([1000]int)
		all = append(all, weak.Make(thing))
		return s.After(func(why api.Errno) { thing[0] = int(why) })
	}
	for range 100 {
		hand(a)()
	}
	if n := held(all); n != 0 {
		t.Errorf("%d of %d functions that were taken back are kept", n, len(all))
	}
	var stops []weak.Pointer[halt.Stop]
	for range 100 {
		b := under(t, a, 0)
		hand(b)
		hand(under(t, b, 0))
		stops = append(stops, weak.Make(b))
		b.Cancel(1)
	}
	if n := held(stops); n > 1 {
		t.Errorf("%d of %d stops that were cancelled are kept", n, len(stops))
	}
	if n := held(all); n != 0 {
		t.Errorf("%d of %d functions that were called are kept", n, len(all))
	}
	runtime.KeepAlive(a)
}

// A stop that is cancelled keeps neither those above it nor those beneath it.
func TestKeepsNoOther(t *testing.T) {
	var others []weak.Pointer[halt.Stop]
	above := made(t, 0)
	s := under(t, above, 0)
	others = append(others, weak.Make(above), weak.Make(under(t, s, 0)))
	s.Cancel(1)
	above = nil
	if n := held(others); n != 0 {
		t.Errorf("%d others are kept", n)
	}
	runtime.KeepAlive(s)
}

// Functions that are handed to a stop and taken back, again and again, leave nothing that grows.
func TestBackLeavesNothing(t *testing.T) {
	s := made(t, 0)
	size := func() int {
		var m runtime.MemStats
		runtime.GC()
		runtime.ReadMemStats(&m)
		return int(m.HeapAlloc)
	}
	ahead := size()
	for range 1 << 20 {
		s.After(func(api.Errno) {})()
	}
	if grown := size() - ahead; grown > 1<<22 {
		t.Errorf("%d bytes more than ahead of it", grown)
	}
	runtime.KeepAlive(s)
}

// Many functions that are taken back, and many stops that are cancelled, in whatever order, cost no walk along all of them each; those that stay keep their order.
func TestMany(t *testing.T) {
	const n = 100000
	for _, turned := range []bool{false, true} {
		a := made(t, 0)
		var order []int
		var backs []func() bool
		var stops []*halt.Stop
		for i := range n {
			backs = append(backs, a.After(func(api.Errno) { order = append(order, i) }))
			s := under(t, a, 0)
			s.After(func(why api.Errno) {
				if why == 2 {
					order = append(order, n+i)
				}
			})
			stops = append(stops, s)
		}
		for i := range n {
			if turned {
				i = n - 1 - i
			}
			if i%1000 != 500 {
				backs[i]()
				stops[i].Cancel(1)
			}
		}
		a.Cancel(2)
		if len(order) != 2*n/1000 {
			t.Fatalf("%d calls, not %d", len(order), 2*n/1000)
		}
		for k, i := range order {
			if i != 500+1000*k {
				t.Fatalf("call %d is of %d", k, i)
			}
		}
	}
}
