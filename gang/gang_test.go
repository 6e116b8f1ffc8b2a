package gang_test

import (
	"iter"
	"runtime"
	"slices"
	"strings"
	"sync"
	"testing"
	"time"

	"spoor/api"
	"spoor/gang"
	"spoor/halt"
)

// pair is what a loop is told at once.
type pair struct {
	value int
	err   api.Errno
}

// asker is what f may be.
type asker = func(i int) (int, api.Errno)

func square(i int) (int, api.Errno) { return i * i, api.OK }

// squares are what Map answers of square.
func squares(n int) []int {
	l := make([]int, n)
	for i := range l {
		l[i] = i * i
	}
	return l
}

// log notes for which numbers f is asked, and how many of them are asked for at the same time.
type log struct {
	lock          sync.Mutex
	asked         []int
	running, most int
}

// of is f, with each asking noted.
func (l *log) of(f asker) asker {
	return func(i int) (int, api.Errno) {
		l.begin(i)
		defer l.end()
		return f(i)
	}
}

func (l *log) begin(i int) {
	l.lock.Lock()
	defer l.lock.Unlock()
	l.asked = append(l.asked, i)
	l.running++
	l.most = max(l.most, l.running)
}

func (l *log) end() {
	l.lock.Lock()
	defer l.lock.Unlock()
	l.running--
}

// numbers are those that f was asked for, rising.
func (l *log) numbers() []int {
	l.lock.Lock()
	defer l.lock.Unlock()
	return slices.Sorted(slices.Values(l.asked))
}

// are holds the numbers that f was asked for against all below n, each once; none of them is asked for any more.
func (l *log) are(t *testing.T, what string, n int) {
	t.Helper()
	want := make([]int, n)
	for i := range want {
		want[i] = i
	}
	if got := l.numbers(); !slices.Equal(got, want) {
		t.Errorf("%s: f was asked for %v, not for the first %d", what, got, n)
	}
	l.rests(t, what)
}

// rests holds that f is being asked for nothing.
func (l *log) rests(t *testing.T, what string) {
	t.Helper()
	l.lock.Lock()
	defer l.lock.Unlock()
	if l.running != 0 {
		t.Errorf("%s: f is still being asked for %d numbers", what, l.running)
	}
}

// made is a stop with a budget.
func made(t *testing.T, budget int) *halt.Stop {
	t.Helper()
	s, e := halt.New(budget)
	if e != api.OK {
		t.Fatal(e)
	}
	return s
}

// cancelled is a stop that is, for a reason.
func cancelled(t *testing.T, why api.Errno) *halt.Stop {
	t.Helper()
	s := made(t, 0)
	s.Cancel(why)
	return s
}

// all is what a loop is told.
func all(seq iter.Seq2[int, api.Errno]) []pair {
	var l []pair
	for value, e := range seq {
		l = append(l, pair{value, e})
	}
	return l
}

// goods are pairs without an error.
func goods(values ...int) []pair {
	var l []pair
	for _, v := range values {
		l = append(l, pair{v, api.OK})
	}
	return l
}

// bad is one pair: an error.
func bad(e api.Errno) []pair { return []pair{{0, e}} }

// maps holds an answer of Map against what it should be.
func maps(t *testing.T, what string, got []int, e api.Errno, want []int, err api.Errno) {
	t.Helper()
	if e != err || !slices.Equal(got, want) {
		t.Errorf("%s: %v, %d; not %v, %d", what, got, e, want, err)
	}
}

// tells holds what a loop is told against what it should be.
func tells(t *testing.T, what string, got, want []pair) {
	t.Helper()
	if !slices.Equal(got, want) {
		t.Errorf("%s: %v, not %v", what, got, want)
	}
}

// gone holds that no goroutine of the package is left. The last steps of one that has been joined are its own: it is given a while.
func gone(t *testing.T, what string) {
	t.Helper()
	var stacks string
	for range 2000 {
		b := make([]byte, 1<<20)
		stacks = string(b[:runtime.Stack(b, true)])
		if !strings.Contains(stacks, "spoor/gang.") {
			return
		}
		time.Sleep(time.Millisecond)
	}
	t.Errorf("%s: goroutines are left:\n%s", what, stacks)
}

// The chapter's first example.
func TestExampleOrdinary(t *testing.T) {
	l, e := gang.Map(nil, 3, 4, square)
	maps(t, "of 4", l, e, []int{0, 1, 4, 9}, api.OK)
	l, e = gang.Map(nil, 0, 4, square)
	maps(t, "by 0", l, e, nil, api.ErrGangWorkers)
	l, e = gang.Map[int](nil, 17, -1, nil)
	maps(t, "by 17, of -1, of nil", l, e, nil, api.ErrGangWorkers)
	l, e = gang.Map(nil, 1, -1, square)
	maps(t, "of -1", l, e, nil, api.ErrArg)
	l, e = gang.Map(nil, 1, 1<<20+1, square)
	maps(t, "of 2^20 + 1", l, e, nil, api.ErrArg)
	l, e = gang.Map[int](nil, 1, 4, nil)
	maps(t, "of nil", l, e, nil, api.ErrArg)
	l, e = gang.Map(nil, 5, 0, square)
	maps(t, "of 0", l, e, nil, api.OK)
	tells(t, "Each of 4", all(gang.Each(nil, 3, 4, square)), goods(0, 1, 4, 9))
	tells(t, "Each of 0", all(gang.Each(nil, 5, 0, square)), nil)
}

// The second one.
func TestExampleErrors(t *testing.T) {
	f := func(i int) (int, api.Errno) {
		switch i {
		case 2:
			return i, api.ErrWireEnd
		case 5:
			return i, api.ErrWireForm
		}
		return i, api.OK
	}
	for workers := 1; workers <= api.MaxWorkers; workers++ {
		l, e := gang.Map(nil, workers, 10, f)
		maps(t, "of 10", l, e, nil, api.ErrWireEnd)
		l, e = gang.Map(nil, workers, 2, f)
		maps(t, "of 2", l, e, []int{0, 1}, api.OK)
		tells(t, "Each", all(gang.Each(nil, workers, 10, f)), append(goods(0, 1), bad(api.ErrWireEnd)...))
	}
}

// The third one, and the same of Each.
func TestExampleBudget(t *testing.T) {
	s := made(t, 3)
	l, e := gang.Map(s, 2, 2, square)
	maps(t, "the first", l, e, []int{0, 1}, api.OK)
	if s.Left() != 1 {
		t.Errorf("%d are left, not 1", s.Left())
	}
	var asked log
	l, e = gang.Map(s, 2, 2, asked.of(square))
	maps(t, "the second", l, e, nil, api.ErrHaltBudget)
	asked.are(t, "the second", 0)

	s = made(t, 3)
	seq := gang.Each(s, 2, 2, asked.of(square))
	tells(t, "the first loop", all(seq), goods(0, 1))
	asked.are(t, "the first loop", 2)
	tells(t, "the second loop", all(seq), bad(api.ErrHaltBudget))
	asked.are(t, "the second loop", 2)
	if s.Left() != 1 || s.Why() != api.ErrHaltBudget {
		t.Errorf("%d are left, reason %d", s.Left(), s.Why())
	}
}

// The fourth one.
func TestExampleLeft(t *testing.T) {
	for range 200 {
		var asked log
		for value, e := range gang.Each(nil, 2, 5, asked.of(square)) {
			tells(t, "the first pair", []pair{{value, e}}, goods(0))
			break
		}
		asked.are(t, "left", 2)
	}
	gone(t, "left")
}

// The fifth one: whatever is handed out at the same time, the stop's reason is the answer.
func TestExampleCancelled(t *testing.T) {
	for workers := 1; workers <= api.MaxWorkers; workers++ {
		s := made(t, 0)
		l, e := gang.Map(s, workers, 10, func(i int) (int, api.Errno) {
			if i == 1 {
				s.Cancel(api.ErrHalted)
			}
			return i, api.OK
		})
		maps(t, "cancelled by f", l, e, nil, api.ErrHalted)
	}
}

// Of several errors the one that is named first is answered; nothing is spent then, and f is not asked.
func TestErrorsInOrder(t *testing.T) {
	const most = api.MaxJobs
	for _, x := range []struct {
		workers, n int
		given      bool
		want       api.Errno
	}{
		{0, 4, true, api.ErrGangWorkers},
		{-1, 4, true, api.ErrGangWorkers},
		{-1 << 63, 4, true, api.ErrGangWorkers},
		{17, 4, true, api.ErrGangWorkers},
		{1<<63 - 1, 4, true, api.ErrGangWorkers},
		{17, -1, false, api.ErrGangWorkers},
		{0, most + 1, true, api.ErrGangWorkers},
		{0, 4, false, api.ErrGangWorkers},
		{1, -1, true, api.ErrArg},
		{16, -1 << 63, true, api.ErrArg},
		{1, most + 1, true, api.ErrArg},
		{16, 1<<63 - 1, true, api.ErrArg},
		{1, 4, false, api.ErrArg},
		{16, 0, false, api.ErrArg},
		{1, -1, false, api.ErrArg},
	} {
		var asked log
		var f asker
		if x.given {
			f = asked.of(square)
		}
		halted := made(t, 2)
		halted.Cancel(api.ErrHalted)
		for _, s := range []*halt.Stop{nil, made(t, 2), halted} {
			l, e := gang.Map(s, x.workers, x.n, f)
			maps(t, "Map", l, e, nil, x.want)
			seq := gang.Each(s, x.workers, x.n, f)
			if seq == nil {
				t.Fatal("Each answered nil")
			}
			for range 2 {
				tells(t, "Each", all(seq), bad(x.want))
			}
			if s != nil && (s.Left() != 2 || s != halted && s.Why() != api.OK) {
				t.Errorf("%d workers, %d numbers: %d are left, reason %d", x.workers, x.n, s.Left(), s.Why())
			}
		}
		asked.are(t, "refused", 0)
	}
}

// What a stop refuses is its error, also of no numbers at all; it is cancelled then, as Spend says.
func TestStopRefuses(t *testing.T) {
	var asked log
	f := asked.of(square)
	for _, n := range []int{0, 1, 10, api.MaxJobs} {
		l, e := gang.Map(cancelled(t, 77), 4, n, f)
		maps(t, "cancelled ahead", l, e, nil, 77)
		tells(t, "cancelled ahead", all(gang.Each(cancelled(t, -5), 4, n, f)), bad(-5))
	}
	top := made(t, 9)
	s, e := top.Under(100)
	if e != api.OK {
		t.Fatal(e)
	}
	l, e := gang.Map(s, 4, 10, f)
	maps(t, "a budget above", l, e, nil, api.ErrHaltBudget)
	if top.Why() != api.ErrHaltBudget || s.Left() != 100 || top.Left() != 9 {
		t.Errorf("reason %d, left %d and %d", top.Why(), s.Left(), top.Left())
	}
	asked.are(t, "refused", 0)
}

// A budget that is just enough is; each call spends as many steps as there are numbers, at once.
func TestSpends(t *testing.T) {
	s := made(t, 25)
	l, e := gang.Map(s, 3, 10, func(i int) (int, api.Errno) {
		if s.Left() != 15 {
			t.Errorf("%d are left", s.Left())
		}
		return i * i, api.OK
	})
	maps(t, "10 of 25", l, e, squares(10), api.OK)
	l, e = gang.Map(s, 3, 0, square)
	maps(t, "0 of 15", l, e, nil, api.OK)
	seq := gang.Each(s, 3, 15, square)
	if s.Left() != 15 {
		t.Errorf("%d are left ahead of the loop", s.Left())
	}
	for range seq {
		if s.Left() != 0 {
			t.Errorf("%d are left in the loop", s.Left())
		}
		break
	}
	if s.Left() != 0 || s.Why() != api.OK {
		t.Errorf("%d are left, reason %d", s.Left(), s.Why())
	}
}

// Where f is refused some numbers, it may be by the budget of the very stop.
func TestSpendsWithin(t *testing.T) {
	for workers := 1; workers <= api.MaxWorkers; workers++ {
		s := made(t, 30)
		l, e := gang.Map(s, workers, 20, func(i int) (int, api.Errno) { return i, s.Spend(1) })
		maps(t, "Map", l, e, nil, api.ErrHaltBudget)
		s = made(t, 30)
		got := all(gang.Each(s, workers, 20, func(i int) (int, api.Errno) { return i, s.Spend(1) }))
		if last := got[len(got)-1]; last != (pair{0, api.ErrHaltBudget}) || len(got) > 11 {
			t.Errorf("Each: %v", got)
		}
	}
}

// The greatest number of jobs, by the least and by the greatest number of workers.
func TestMost(t *testing.T) {
	want := squares(api.MaxJobs)
	for _, workers := range []int{1, api.MaxWorkers} {
		s := made(t, 2*api.MaxJobs)
		l, e := gang.Map(s, workers, api.MaxJobs, square)
		if e != api.OK || !slices.Equal(l, want) {
			t.Errorf("%d workers: %d answers, %d", workers, len(l), e)
		}
		i := 0
		for v, e := range gang.Each(s, workers, api.MaxJobs, square) {
			if e != api.OK || v != want[i] {
				t.Fatalf("%d workers: the pair %d: %d, %d", workers, i, v, e)
			}
			i++
		}
		if i != api.MaxJobs || s.Left() != 0 {
			t.Errorf("%d workers: %d pairs, %d are left", workers, i, s.Left())
		}
	}
}
