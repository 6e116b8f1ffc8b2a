package gang_test

import (
	"math/rand/v2"
	"runtime"
	"slices"
	"testing"

	"spoor/api"
	"spoor/gang"
	"spoor/halt"
)

// script is what an f answers that hangs on the number alone.
type script []pair

// written is one in which about one of so many numbers fails; 0: none.
func written(r *rand.Rand, n, fails int) script {
	l := make(script, n)
	for i := range l {
		l[i].value = r.IntN(1000) + 1
		if fails > 0 && r.IntN(fails) == 0 {
			l[i].err = api.Errno(1 + r.IntN(300))
		}
	}
	return l
}

// plain is what one hand does: the pairs up to the first error.
func (l script) plain() []pair {
	var out []pair
	for _, x := range l {
		if x.err != api.OK {
			return append(out, pair{0, x.err})
		}
		out = append(out, x)
	}
	return out
}

// answer is what Map should make of it.
func (l script) answer() ([]int, api.Errno) {
	var values []int
	for _, x := range l.plain() {
		if x.err != api.OK {
			return nil, x.err
		}
		values = append(values, x.value)
	}
	return values, api.OK
}

// f answers by the script. It gives way for some numbers, so that others come first.
func (l script) f(mix uint64) asker {
	return func(i int) (int, api.Errno) {
		for range (uint64(i) + mix) * 2654435761 % 97 % 4 {
			runtime.Gosched()
		}
		return l[i].value, l[i].err
	}
}

// P19.1: any number of workers, with a stop or without one, answers what one hand would; so does Each, one by one.
func TestOneAnswer(t *testing.T) {
	r := rand.New(rand.NewPCG(19, 3))
	for round := range 250 {
		l := written(r, r.IntN(120), []int{0, 0, 3, 20, 60}[round%5])
		values, err := l.answer()
		for workers := 1; workers <= api.MaxWorkers; workers++ {
			for _, s := range []*halt.Stop{nil, made(t, 0), made(t, 2*len(l)+1)} {
				var asked log
				got, e := gang.Map(s, workers, len(l), asked.of(l.f(r.Uint64())))
				maps(t, "Map", got, e, values, err)
				asked.rests(t, "Map")
				asked.once(t, "Map", len(l), len(l.plain()))
				asked = log{}
				told := all(gang.Each(s, workers, len(l), asked.of(l.f(r.Uint64()))))
				tells(t, "Each", told, l.plain())
				asked.rests(t, "Each")
				asked.are(t, "Each", min(len(l), max(0, len(told)-1)+workers))
			}
		}
	}
	gone(t, "all")
}

// once holds P19.2: f was asked for no number twice, for none that is not below n, and for all below a number.
func (l *log) once(t *testing.T, what string, n, all int) {
	t.Helper()
	got := l.numbers()
	if len(slices.Compact(slices.Clone(got))) != len(got) {
		t.Errorf("%s: f was asked twice: %v", what, got)
	}
	if len(got) > 0 && (got[0] < 0 || got[len(got)-1] >= n) {
		t.Errorf("%s: f was asked for others than those below %d: %v", what, n, got)
	}
	for i := range all {
		if i >= len(got) || got[i] != i {
			t.Errorf("%s: f was not asked for %d: %v", what, i, got)
			return
		}
	}
}

// P19.2: where Map answers no error, f was asked for all, each once; where it does, for none twice, whoever cancels meanwhile.
func TestAskedOnce(t *testing.T) {
	for round := range 400 {
		workers, n := 1+round%api.MaxWorkers, round%90
		var asked log
		s := made(t, 0)
		_, e := gang.Map(s, workers, n, asked.of(square))
		if e != api.OK {
			t.Fatal(e)
		}
		asked.are(t, "Map", n)

		asked = log{}
		f := asked.of(func(i int) (int, api.Errno) {
			if i == n/2 {
				s.Cancel(9)
			}
			return i, api.OK
		})
		_, e = gang.Map(s, workers, n, f)
		if n > 0 && e != 9 {
			t.Errorf("cancelled: %d", e)
		}
		asked.once(t, "Map, cancelled", n, 0)
		asked = log{}
		s = made(t, 0)
		all(gang.Each(s, workers, n, f))
		asked.once(t, "Each, cancelled", n, 0)
	}
}

// P19.3: f is asked no more when Map has answered, and when a loop has ended, whatever ended it.
func TestAskedNoMore(t *testing.T) {
	type step struct {
		name string
		do   func(s *halt.Stop, f asker)
	}
	for round := range 60 * api.MaxWorkers {
		workers := 1 + round%api.MaxWorkers
		for _, x := range []step{
			{"Map", func(s *halt.Stop, f asker) { gang.Map(s, workers, 50, f) }},
			{"Each", func(s *halt.Stop, f asker) { all(gang.Each(s, workers, 50, f)) }},
			{"Each, left", func(s *halt.Stop, f asker) {
				for range gang.Each(s, workers, 50, f) {
					return
				}
			}},
		} {
			for _, how := range []string{"all", "an error", "a cancel"} {
				var asked log
				s := made(t, 0)
				x.do(s, asked.of(func(i int) (int, api.Errno) {
					switch {
					case i == 20 && how == "an error":
						return i, 5
					case i == 20 && how == "a cancel":
						s.Cancel(6)
					}
					return i, api.OK
				}))
				asked.rests(t, x.name+", "+how)
				before := len(asked.asked)
				if round%50 == 0 {
					gone(t, x.name+", "+how)
				}
				if after := len(asked.numbers()); after != before {
					t.Errorf("%s, %s: f was asked %d times, and then %d", x.name, how, before, after)
				}
			}
		}
	}
}

// P4: several at the same time have nothing to do with one another.
func TestBesideOneAnother(t *testing.T) {
	r := rand.New(rand.NewPCG(19, 4))
	scripts := make([]script, 40)
	for i := range scripts {
		scripts[i] = written(r, 60, 30)
	}
	_, e := gang.Map(nil, api.MaxWorkers, len(scripts), func(k int) (int, api.Errno) {
		l := scripts[k]
		values, err := l.answer()
		for workers := 1; workers <= api.MaxWorkers; workers++ {
			got, e := gang.Map(nil, workers, len(l), l.f(0))
			maps(t, "Map", got, e, values, err)
			tells(t, "Each", all(gang.Each(nil, workers, len(l), l.f(1))), l.plain())
		}
		return 0, api.OK
	})
	if e != api.OK {
		t.Error(e)
	}
}
