package gang_test

import (
	"math/rand/v2"
	"slices"
	"sync/atomic"
	"testing"
	"testing/synctest"
	"time"

	"spoor/api"
	"spoor/gang"
	"spoor/halt"
)

// naps is f that sleeps for each number so many seconds, and notes at which second it was asked.
func naps(from time.Time, takes, asked []int) asker {
	return func(i int) (int, api.Errno) {
		asked[i] = int(time.Since(from) / time.Second)
		time.Sleep(time.Duration(takes[i]) * time.Second)
		return i, api.OK
	}
}

// drawn are so many numbers below a bound.
func drawn(r *rand.Rand, n, below int) []int {
	l := make([]int, n)
	for i := range l {
		l[i] = r.IntN(below)
	}
	return l
}

// Numbers are handed out rising, each to the first goroutine that is free: not sooner, not later, by no more of them than may be.
func TestMapHandsOut(t *testing.T) {
	r := rand.New(rand.NewPCG(19, 1))
	for round := range 400 {
		workers, n := 1+round%api.MaxWorkers, r.IntN(60)
		takes := drawn(r, n, 6)
		synctest.Test(t, func(t *testing.T) {
			var asked log
			at := make([]int, n)
			l, e := gang.Map(nil, workers, n, asked.of(naps(time.Now(), takes, at)))
			if e != api.OK || len(l) != n {
				t.Fatalf("%v, %d", l, e)
			}
			asked.are(t, "Map", n)
			if asked.most > workers {
				t.Errorf("%d are asked for at once by %d workers", asked.most, workers)
			}
			free := make([]int, workers)
			for i, took := range takes {
				first := slices.Index(free, slices.Min(free))
				if at[i] != free[first] {
					t.Fatalf("%d workers, times %v: %d was asked for at %d, not at %d", workers, takes, i, at[i], free[first])
				}
				free[first] += took
			}
		})
	}
}

// As many are asked for at the same time as there are workers, or numbers.
func TestMapSideBySide(t *testing.T) {
	for workers := 1; workers <= api.MaxWorkers; workers++ {
		for _, n := range []int{1, 2, workers, 3 * workers} {
			var here atomic.Int32
			full := make(chan struct{})
			l, e := gang.Map(nil, workers, n, func(i int) (int, api.Errno) {
				if int(here.Add(1)) == min(workers, n) {
					close(full)
				}
				<-full
				return i * i, api.OK
			})
			maps(t, "all wait for one another", l, e, squares(n), api.OK)
		}
	}
}

// One that takes long holds up none of the others.
func TestMapHoldsUpNone(t *testing.T) {
	for workers := 2; workers <= api.MaxWorkers; workers++ {
		last := make(chan struct{})
		l, e := gang.Map(nil, workers, 100, func(i int) (int, api.Errno) {
			switch i {
			case 0:
				<-last
			case 99:
				close(last)
			}
			return i * i, api.OK
		})
		maps(t, "the first waits for the last", l, e, squares(100), api.OK)
	}
}

// By one worker all is in order: none is asked for behind an error, or behind a cancel.
func TestMapByOne(t *testing.T) {
	for range 100 {
		var asked log
		l, e := gang.Map(nil, 1, 20, asked.of(func(i int) (int, api.Errno) {
			if i == 7 {
				return 1, api.ErrWireEnd
			}
			return i, api.OK
		}))
		maps(t, "an error", l, e, nil, api.ErrWireEnd)
		if asked.are(t, "an error", 8); !slices.IsSorted(asked.asked) {
			t.Errorf("asked for in the order %v", asked.asked)
		}

		s := made(t, 0)
		asked = log{}
		l, e = gang.Map(s, 1, 20, asked.of(func(i int) (int, api.Errno) {
			if i == 7 {
				s.Cancel(50)
			}
			return i, api.OK
		}))
		maps(t, "a cancel", l, e, nil, 50)
		asked.are(t, "a cancel", 8)
	}
}

// Once f has answered an error, none is handed out any more; those that were are waited for.
func TestMapNoneBehindAnError(t *testing.T) {
	for workers := 1; workers <= api.MaxWorkers; workers++ {
		for bad := range workers {
			synctest.Test(t, func(t *testing.T) {
				var asked log
				l, e := gang.Map(nil, workers, 100, asked.of(func(i int) (int, api.Errno) {
					time.Sleep(time.Second) // till all are busy
					if i == bad {
						return i, api.ErrWireEnd
					}
					time.Sleep(time.Duration(1+i) * time.Second)
					return i, api.OK
				}))
				maps(t, "an error", l, e, nil, api.ErrWireEnd)
				asked.are(t, "an error", workers)
			})
		}
	}
}

// Of several errors that of the least number is answered, whichever comes first.
func TestMapLeastError(t *testing.T) {
	for workers := 2; workers <= api.MaxWorkers; workers++ {
		for _, rises := range []bool{false, true} {
			synctest.Test(t, func(t *testing.T) {
				var asked log
				l, e := gang.Map(nil, workers, 100, asked.of(func(i int) (int, api.Errno) {
					if rises {
						time.Sleep(time.Duration(i) * time.Second)
					} else {
						time.Sleep(time.Duration(workers-i) * time.Second)
					}
					if i == 0 {
						return i, api.OK
					}
					return i, api.Errno(100 + i)
				}))
				maps(t, "errors of all but the first", l, e, nil, 101)
				if !rises {
					asked.are(t, "errors of all but the first", workers)
				}
			})
		}
	}
}

// What was handed out is asked for, though a greater number has failed meanwhile: chance has many turns here.
func TestMapLesserOnesAreAsked(t *testing.T) {
	for round := range 4000 {
		workers, from := 2+round%(api.MaxWorkers-1), round%7
		l, e := gang.Map(nil, workers, 40, func(i int) (int, api.Errno) {
			if i < from {
				return i, api.OK
			}
			return i, api.Errno(100 + i)
		})
		maps(t, "errors from one on", l, e, nil, api.Errno(100+from))
	}
}

// Any number that is not OK is an error.
func TestMapAnyError(t *testing.T) {
	for _, want := range []api.Errno{-1 << 63, -1, 1, 999, 1<<63 - 1} {
		l, e := gang.Map(nil, 3, 9, func(i int) (int, api.Errno) { return 5, want })
		maps(t, "always", l, e, nil, want)
	}
}

// Once the stop is cancelled, f is asked for nothing more, not even for what was handed out.
func TestMapNoneBehindACancel(t *testing.T) {
	for round := range 20 * api.MaxWorkers {
		workers := 1 + round%api.MaxWorkers
		s := made(t, 0)
		var asked log
		var here atomic.Int32
		l, e := gang.Map(s, workers, 100, asked.of(func(i int) (int, api.Errno) {
			if int(here.Add(1)) == workers {
				s.Cancel(60)
			}
			<-s.Done()
			return i, api.OK
		}))
		maps(t, "cancelled when all are busy", l, e, nil, 60)
		asked.are(t, "cancelled when all are busy", workers)
	}
}

// A stop that is cancelled by somebody else, or above, ends it too.
func TestMapCancelledFromOutside(t *testing.T) {
	for workers := 1; workers <= api.MaxWorkers; workers++ {
		synctest.Test(t, func(t *testing.T) {
			top := made(t, 0)
			s, _ := top.Under(0)
			var asked log
			go func() {
				time.Sleep(5*time.Second + 1)
				top.Cancel(api.ErrHalted)
			}()
			l, e := gang.Map(s, workers, 1000, asked.of(func(i int) (int, api.Errno) {
				time.Sleep(time.Second)
				return i, api.OK
			}))
			maps(t, "cancelled in the sixth second", l, e, nil, api.ErrHalted)
			asked.are(t, "cancelled in the sixth second", 6*workers)
		})
	}
}

// The stop's reason is answered, also if f has answered for all numbers.
func TestMapCancelledAtTheEnd(t *testing.T) {
	for workers := 1; workers <= api.MaxWorkers; workers++ {
		for _, n := range []int{1, 2, 16, 40} {
			s := made(t, 0)
			var asked log
			var answered atomic.Int32
			l, e := gang.Map(s, workers, n, asked.of(func(i int) (int, api.Errno) {
				if int(answered.Add(1)) == n {
					s.Cancel(61)
				}
				return i, api.OK
			}))
			maps(t, "cancelled by the last one", l, e, nil, 61)
			asked.are(t, "cancelled by the last one", n)
		}
	}
}

// A stop that is cancelled behind the call is none of its concern; nor is one beneath it, or beside it.
func TestMapCancelledElsewhere(t *testing.T) {
	top := made(t, 0)
	s, _ := top.Under(0)
	beneath, _ := s.Under(0)
	beside, _ := top.Under(0)
	l, e := gang.Map(s, 3, 10, func(i int) (int, api.Errno) {
		beneath.Cancel(62)
		beside.Cancel(63)
		return i * i, api.OK
	})
	top.Cancel(64)
	maps(t, "others are cancelled", l, e, squares(10), api.OK)
}

// Of an error and a cancel one is answered.
func TestMapBoth(t *testing.T) {
	for round := range 400 {
		s := made(t, 0)
		l, e := gang.Map(s, 1+round%api.MaxWorkers, 20, func(i int) (int, api.Errno) {
			if i == 3 {
				s.Cancel(65)
				return i, 66
			}
			return i, api.OK
		})
		if len(l) != 0 || e != 65 && e != 66 {
			t.Errorf("%v, %d", l, e)
		}
	}
}

// A stop is no worse for it: what is put to its functions waits still, and it may be used again.
func TestMapLeavesTheStop(t *testing.T) {
	s := made(t, 100)
	called := 0
	back := s.After(func(api.Errno) { called++ })
	for range 3 {
		l, e := gang.Map(s, 4, 10, square)
		maps(t, "again", l, e, squares(10), api.OK)
		l, e = gang.Map(s, 4, 10, func(int) (int, api.Errno) { return 0, 7 })
		maps(t, "an error", l, e, nil, 7)
	}
	if s.Why() != api.OK || s.Left() != 40 || called != 0 || !back() {
		t.Errorf("reason %d, left %d, called %d times", s.Why(), s.Left(), called)
	}
}

// f may have a gang of its own, of the same stop.
func TestMapWithin(t *testing.T) {
	s := made(t, 0)
	l, e := gang.Map(s, 5, 20, func(i int) (int, api.Errno) {
		inner, e := gang.Map(s, 5, i, square)
		sum := 0
		for _, x := range inner {
			sum += x
		}
		for x := range gang.Each(s, 5, i, square) {
			sum += x
		}
		return sum, e
	})
	want := make([]int, 20)
	for i := range want {
		for _, x := range squares(i) {
			want[i] += 2 * x
		}
	}
	maps(t, "sums", l, e, want, api.OK)
}

// Goroutines have ended when Map answers, for whatever reason it does.
func TestMapLeavesNobody(t *testing.T) {
	s := made(t, 0)
	for _, f := range []asker{
		square,
		func(i int) (int, api.Errno) { return i, api.Errno(i / 5) },
		func(i int) (int, api.Errno) {
			if i == 50 {
				s.Cancel(9)
			}
			return i, api.OK
		},
	} {
		for _, stop := range []*halt.Stop{nil, s} {
			var asked log
			gang.Map(stop, 16, 100, asked.of(f))
			asked.rests(t, "Map")
			gone(t, "Map")
		}
	}
}
