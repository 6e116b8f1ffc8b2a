package gang_test

import (
	"iter"
	"math/rand/v2"
	"runtime"
	"slices"
	"sync/atomic"
	"testing"
	"testing/synctest"
	"time"

	"spoor/api"
	"spoor/gang"
	"spoor/halt"
)

// Ahead of the i-th pair just the first i + workers numbers have been handed out, or all; f is asked for each of them.
func TestEachHandsOut(t *testing.T) {
	for workers := 1; workers <= api.MaxWorkers; workers++ {
		for _, n := range []int{0, 1, workers - 1, workers, workers + 1, 40} {
			synctest.Test(t, func(t *testing.T) {
				var asked log
				i := 0
				for v, e := range gang.Each(nil, workers, n, asked.of(square)) {
					synctest.Wait()
					asked.are(t, "in the loop", min(n, i+workers))
					tells(t, "in the loop", []pair{{v, e}}, goods(i*i))
					i++
				}
				if i != n {
					t.Errorf("%d pairs, not %d", i, n)
				}
				asked.are(t, "behind the loop", n)
			})
		}
	}
}

// Each pair is told as soon as f has answered, and the loop's body is done with the one ahead; each number is handed out when the body is done with the one that makes room for it.
func TestEachTimes(t *testing.T) {
	r := rand.New(rand.NewPCG(19, 2))
	for round := range 400 {
		workers, n := 1+round%api.MaxWorkers, r.IntN(60)
		takes, bodies := drawn(r, n, 9), drawn(r, n, 3)
		synctest.Test(t, func(t *testing.T) {
			from := time.Now()
			var asked log
			at, left := make([]int, n), make([]int, n)
			i, now := 0, 0
			for v, e := range gang.Each(nil, workers, n, asked.of(naps(from, takes, at))) {
				handed := 0
				if i >= workers {
					handed = left[i-workers]
				}
				now = max(now, handed+takes[i])
				if at[i] != handed || int(time.Since(from)/time.Second) != now || v != i || e != api.OK {
					t.Fatalf("%d workers: the pair %d, %d, %d: asked for at %d, told at %v; not at %d and %d", workers, i, v, e, at[i], time.Since(from), handed, now)
				}
				time.Sleep(time.Duration(bodies[i]) * time.Second)
				now += bodies[i]
				left[i] = now
				i++
			}
			if asked.are(t, "in all", n); asked.most > workers {
				t.Errorf("%d are asked for at once by %d workers", asked.most, workers)
			}
		})
	}
}

// As many are asked for at the same time as there are workers, or numbers.
func TestEachSideBySide(t *testing.T) {
	for workers := 1; workers <= api.MaxWorkers; workers++ {
		for _, n := range []int{1, 2, workers, 3 * workers} {
			var here atomic.Int32
			full := make(chan struct{})
			got := all(gang.Each(nil, workers, n, func(i int) (int, api.Errno) {
				if int(here.Add(1)) == min(workers, n) {
					close(full)
				}
				<-full
				return i * i, api.OK
			}))
			tells(t, "all wait for one another", got, goods(squares(n)...))
		}
	}
}

// An error is told with a zero in its number's place, and that is all; those that were handed out behind it are waited for.
func TestEachError(t *testing.T) {
	const n = 30
	for workers := 1; workers <= api.MaxWorkers; workers++ {
		for wrong := range n {
			var asked log
			got := all(gang.Each(nil, workers, n, asked.of(func(i int) (int, api.Errno) {
				if i >= wrong {
					return i + 1, api.Errno(100 + i)
				}
				return i * i, api.OK
			})))
			tells(t, "errors from one on", got, append(goods(squares(wrong)...), bad(api.Errno(100+wrong))...))
			asked.are(t, "errors from one on", min(n, wrong+workers))
		}
	}
}

// An error behind the first one that is under way does not hinder what is handed out: it is seen when its turn comes.
func TestEachErrorAhead(t *testing.T) {
	synctest.Test(t, func(t *testing.T) {
		var asked log
		i := 0
		for _, e := range gang.Each(nil, 4, 20, asked.of(func(i int) (int, api.Errno) {
			if i == 3 {
				return i, api.ErrWireEnd
			}
			time.Sleep(time.Second)
			return i, api.OK
		})) {
			synctest.Wait()
			if asked.lock.Lock(); len(asked.asked) != i+4 || (e != api.OK) != (i == 3) {
				t.Errorf("the pair %d: %d; %d were asked for", i, e, len(asked.asked))
			}
			asked.lock.Unlock()
			i++
		}
		if asked.are(t, "in all", 7); i != 4 {
			t.Errorf("%d pairs", i)
		}
	})
}

// Any number that is not OK is an error, also if the loop would go on.
func TestEachAnyError(t *testing.T) {
	for _, want := range []api.Errno{-1 << 63, -1, 1, 999, 1<<63 - 1} {
		tells(t, "always", all(gang.Each(nil, 3, 9, func(int) (int, api.Errno) { return 5, want })), bad(want))
	}
}

// An error and a reason are told at once: f, which is still asked for others, may wait for the loop.
func TestEachTellsAtOnce(t *testing.T) {
	for _, byLoop := range []bool{false, true} {
		s := made(t, 0)
		seen := make(chan struct{})
		var got []api.Errno
		for _, e := range gang.Each(s, 3, 9, func(i int) (int, api.Errno) {
			switch {
			case i == 0 && !byLoop:
				return 0, api.ErrHalted
			case i > 0:
				<-seen
			}
			return i, api.OK
		}) {
			if got = append(got, e); e == api.OK {
				s.Cancel(api.ErrHalted)
			} else {
				close(seen)
			}
		}
		if got[len(got)-1] != api.ErrHalted {
			t.Errorf("told %v", got)
		}
	}
}

// Cancelled by the loop itself: the reason is told in the next pair's place, nothing more is handed out, and that is all; behind the last pair it is not looked at.
func TestEachCancelledByTheLoop(t *testing.T) {
	const n = 25
	for workers := 1; workers <= api.MaxWorkers; workers++ {
		for at := range n {
			s := made(t, 0)
			var asked log
			var got []pair
			for v, e := range gang.Each(s, workers, n, asked.of(square)) {
				if got = append(got, pair{v, e}); len(got) == at+1 {
					s.Cancel(70)
				}
			}
			want := goods(squares(at + 1)...)
			if at < n-1 {
				want = append(want, bad(70)...)
			}
			tells(t, "cancelled by the loop", got, want)
			asked.are(t, "cancelled by the loop", min(n, at+workers))
		}
	}
}

// Cancelled above by the loop, it is cancelled too.
func TestEachCancelledAbove(t *testing.T) {
	top := made(t, 0)
	s, _ := top.Under(0)
	var got []pair
	for v, e := range gang.Each(s, 3, 9, square) {
		got = append(got, pair{v, e})
		top.Cancel(71)
	}
	tells(t, "cancelled above", got, append(goods(0), bad(71)...))
}

// Cancelled by f: pairs as they are, then the reason in the place of one of them, unless all were told; it ends soon.
func TestEachCancelledByF(t *testing.T) {
	const n, at = 200, 40
	for round := range 40 * api.MaxWorkers {
		workers := 1 + round%api.MaxWorkers
		s := made(t, 0)
		var asked log
		got := all(gang.Each(s, workers, n, asked.of(func(i int) (int, api.Errno) {
			if i == at {
				s.Cancel(72)
			}
			return i * i, api.OK
		})))
		last := len(got) - 1
		tells(t, "the last one", got[last:], bad(72))
		tells(t, "those ahead of it", got[:last], goods(squares(last)...))
		// It was handed out ahead of the pair at - workers + 1, or of the first one, and is told before the pair behind it.
		if last < at-workers+1 || last > at+1 {
			t.Errorf("%d workers: %d pairs ahead of the reason", workers, last)
		}
		asked.rests(t, "cancelled by f")
		if len(asked.asked) > at+1+workers {
			t.Errorf("%d workers: f was asked for %d numbers", workers, len(asked.asked))
		}
	}
}

// Cancelled by others at any moment, it ends.
func TestEachCancelledFromOutside(t *testing.T) {
	for round := range 600 {
		s := made(t, 0)
		go func() {
			for range round % 60 {
				runtime.Gosched()
			}
			s.Cancel(73)
		}()
		var asked log
		got := all(gang.Each(s, 1+round%api.MaxWorkers, 400, asked.of(square)))
		asked.rests(t, "cancelled by others")
		if len(got) == 400 && got[399].err == api.OK {
			tells(t, "all", got, goods(squares(400)...))
			continue
		}
		last := len(got) - 1
		tells(t, "cancelled by others", got, append(goods(squares(last)...), bad(73)...))
	}
	gone(t, "cancelled by others")
}

// Cancelled while f is waited for: it is seen, and what is under way is waited for.
func TestEachCancelledWhileItWaits(t *testing.T) {
	synctest.Test(t, func(t *testing.T) {
		s := made(t, 0)
		go func() {
			time.Sleep(10*time.Second + 1)
			s.Cancel(74)
		}()
		var asked log
		got := all(gang.Each(s, 2, 100, asked.of(func(i int) (int, api.Errno) {
			time.Sleep(4 * time.Second)
			return i * i, api.OK
		})))
		// Two in four seconds: four pairs in eight; what is told of those that end at twelve is not said.
		last := len(got) - 1
		if last < 4 || last > 6 {
			t.Errorf("%d pairs ahead of the reason", last)
		}
		tells(t, "cancelled by others", got, append(goods(squares(last)...), bad(74)...))
		asked.are(t, "cancelled by others", 6)
	})
}

// left are ways in which a loop may end behind so many pairs.
func left() map[string]func(seq iter.Seq2[int, api.Errno], behind int) {
	return map[string]func(iter.Seq2[int, api.Errno], int){
		"break": func(seq iter.Seq2[int, api.Errno], behind int) {
			for range seq {
				if behind--; behind == 0 {
					break
				}
			}
		},
		"return": func(seq iter.Seq2[int, api.Errno], behind int) {
			for range seq {
				if behind--; behind == 0 {
					return
				}
			}
		},
		"label": func(seq iter.Seq2[int, api.Errno], behind int) {
		outer:
			for range 1 {
				for range seq {
					if behind--; behind == 0 {
						continue outer
					}
				}
			}
		},
		"panic": func(seq iter.Seq2[int, api.Errno], behind int) {
			defer func() { _ = recover() }()
			for range seq {
				if behind--; behind == 0 {
					panic("left")
				}
			}
		},
		"exit": func(seq iter.Seq2[int, api.Errno], behind int) {
			ended := make(chan struct{})
			go func() {
				defer close(ended)
				for range seq {
					if behind--; behind == 0 {
						runtime.Goexit()
					}
				}
			}()
			<-ended
		},
		"pull": func(seq iter.Seq2[int, api.Errno], behind int) {
			next, stop := iter.Pull2(seq)
			for range behind {
				next()
			}
			stop()
		},
	}
}

// When a loop has ended, for whatever reason, nothing more is handed out, f was asked for all that was, and all goroutines have ended.
func TestEachLeft(t *testing.T) {
	const n = 20
	for name, leave := range left() {
		for workers := 1; workers <= api.MaxWorkers; workers++ {
			for behind := 1; behind <= n; behind++ {
				var asked log
				seq := gang.Each(nil, workers, n, asked.of(func(i int) (int, api.Errno) {
					if i%3 == 2 {
						time.Sleep(time.Microsecond)
					}
					return i, api.OK
				}))
				leave(seq, behind)
				asked.are(t, name, min(n, behind-1+workers))
			}
		}
		gone(t, name)
	}
}

// So it is where f takes long: a loop that is left waits for it.
func TestEachLeftWaits(t *testing.T) {
	synctest.Test(t, func(t *testing.T) {
		from := time.Now()
		var asked log
		for range gang.Each(nil, 5, 20, asked.of(func(i int) (int, api.Errno) {
			time.Sleep(time.Duration(i) * time.Hour)
			return i, api.OK
		})) {
			break
		}
		asked.are(t, "left", 5)
		if time.Since(from) != 4*time.Hour {
			t.Errorf("left at %v", time.Since(from))
		}
	})
}

// Ahead of its loop nothing is done.
func TestEachDoesNothingAhead(t *testing.T) {
	var asked log
	s := made(t, 5)
	seq := gang.Each(s, 4, 5, asked.of(square))
	gone(t, "ahead of the loop")
	asked.are(t, "ahead of the loop", 0)
	if s.Left() != 5 {
		t.Errorf("%d are left", s.Left())
	}
	s.Cancel(75)
	tells(t, "cancelled ahead of the loop", all(seq), bad(75))
	asked.are(t, "cancelled ahead of the loop", 0)
}

// Ranged over again, f is asked anew, and the stop is.
func TestEachAgain(t *testing.T) {
	s := made(t, 25)
	turn := 0
	var asked log
	seq := gang.Each(s, 4, 10, asked.of(func(i int) (int, api.Errno) { return i * turn, api.OK }))
	for range seq {
		break
	}
	asked.are(t, "left", 4)
	asked, turn = log{}, 7
	tells(t, "the second time", all(seq), goods(0, 7, 14, 21, 28, 35, 42, 49, 56, 63))
	asked.are(t, "the second time", 10)
	asked = log{}
	tells(t, "the third time", all(seq), bad(api.ErrHaltBudget))
	asked.are(t, "the third time", 0)
}

// Ranged over within its own loop, each loop is told all, and spends for itself.
func TestEachWithin(t *testing.T) {
	for workers := 1; workers <= api.MaxWorkers; workers++ {
		s := made(t, 1000)
		seq := gang.Each(s, workers, 9, square)
		var outer []pair
		for v, e := range seq {
			outer = append(outer, pair{v, e})
			for range seq {
				break
			}
			tells(t, "within", all(seq), goods(squares(9)...))
		}
		tells(t, "the outer one", outer, goods(squares(9)...))
		if s.Left() != 1000-9-9*(9+9) {
			t.Errorf("%d are left", s.Left())
		}
	}
	gone(t, "within")
}

// A stop that is nil never stops; without one all is told.
func TestEachWithoutStop(t *testing.T) {
	var s *halt.Stop
	for workers := 1; workers <= api.MaxWorkers; workers++ {
		got := all(gang.Each(s, workers, 33, square))
		tells(t, "without a stop", got, goods(squares(33)...))
	}
}

// Pulled, it is told one by one.
func TestEachPulled(t *testing.T) {
	next, stop := iter.Pull2(gang.Each(nil, 3, 5, square))
	defer stop()
	var got []pair
	for {
		v, e, is := next()
		if !is {
			break
		}
		got = append(got, pair{v, e})
	}
	if !slices.Equal(got, goods(squares(5)...)) {
		t.Errorf("pulled: %v", got)
	}
	gone(t, "pulled")
}
