package halt_test

import (
	"fmt"
	"math/rand"
	"slices"
	"testing"

	"spoor/api"
	"spoor/halt"
)

// A plain stop does what the chapter says, word for word, for one hand.
type plain struct {
	above  *plain
	under  []*plain
	budget bool
	left   int
	why    api.Errno
	funcs  []*function
}

type function struct {
	f     func(api.Errno)
	state string
}

func (p *plain) make(budget int) *plain {
	n := &plain{above: p, budget: budget > 0, left: budget}
	if !n.budget {
		n.left = -1
	}
	if p != nil {
		p.under = append(p.under, n)
		n.why = p.why
	}
	return n
}

func (p *plain) mark(why api.Errno) []*plain {
	if p.why != api.OK {
		return nil
	}
	p.why = why
	all := []*plain{p}
	for _, u := range p.under {
		all = append(all, u.mark(why)...)
	}
	return all
}

func (p *plain) cancel(why api.Errno) api.Errno {
	if why == api.OK {
		return api.ErrArg
	}
	if p.why != api.OK {
		return p.why
	}
	for _, m := range p.mark(why) {
		for _, f := range m.funcs {
			if f.state == "waiting" {
				f.state = "called"
				f.f(why)
			}
		}
	}
	return why
}

func (p *plain) spend(n int) api.Errno {
	if n < 0 {
		return api.ErrArg
	}
	if p.why != api.OK {
		return p.why
	}
	for a := p; a != nil; a = a.above {
		if a.budget && a.left < n {
			return a.cancel(api.ErrHaltBudget)
		}
	}
	for a := p; a != nil; a = a.above {
		if a.budget {
			a.left -= n
		}
	}
	return api.OK
}

func (p *plain) after(f func(api.Errno)) func() bool {
	if p.why != api.OK {
		f(p.why)
		return func() bool { return false }
	}
	n := &function{f, "waiting"}
	p.funcs = append(p.funcs, n)
	return func() bool {
		if n.state != "waiting" {
			return false
		}
		n.state = "taken back"
		return true
	}
}

// two runs the same calls on stops and on plain ones, and notes what each of them told.
type two struct {
	stops  []*halt.Stop
	plains []*plain
	backs  [2][]func() bool
	told   [2][]string
}

func (w *two) tell(side int, words ...any) {
	w.told[side] = append(w.told[side], fmt.Sprintln(words...))
}

// do does one call on one side; what a function does when it is called hangs on its seed alone.
func (w *two) do(side int, seed int64, deep int) {
	r := rand.New(rand.NewSource(seed))
	i, what := r.Intn(len(w.stops)), r.Intn(10)
	number := r.Intn(6) - 1
	switch {
	case what < 3:
		f := func(why api.Errno) {
			w.tell(side, "called", seed, why)
			if deep < 3 && seed%3 > 0 {
				w.do(side, seed*7+1, deep+1)
			}
		}
		back := w.after(side, i, f)
		w.backs[side] = append(w.backs[side], back)
	case what < 5 && len(w.backs[side]) > 0:
		k := r.Intn(len(w.backs[side]))
		w.tell(side, "back", k, w.backs[side][k]())
	case what < 9:
		w.tell(side, "spend", i, number, w.spend(side, i, number))
	default:
		w.tell(side, "cancel", i, number, w.cancel(side, i, api.Errno(number+1)))
	}
}

func (w *two) after(side, i int, f func(api.Errno)) func() bool {
	if side == 0 {
		return w.stops[i].After(f)
	}
	return w.plains[i].after(f)
}

func (w *two) spend(side, i, n int) api.Errno {
	if side == 0 {
		return w.stops[i].Spend(n)
	}
	return w.plains[i].spend(n)
}

func (w *two) cancel(side, i int, why api.Errno) api.Errno {
	if side == 0 {
		return w.stops[i].Cancel(why)
	}
	return w.plains[i].cancel(why)
}

func (w *two) make(i, budget int) {
	if i < 0 {
		s, _ := halt.New(budget)
		w.stops, w.plains = append(w.stops, s), append(w.plains, (*plain)(nil).make(budget))
		return
	}
	s, _ := w.stops[i].Under(budget)
	w.stops, w.plains = append(w.stops, s), append(w.plains, w.plains[i].make(budget))
}

func (w *two) same() bool {
	for i, s := range w.stops {
		p := w.plains[i]
		if s.Why() != p.why || s.Left() != p.left || closed(s.Done()) != (p.why != api.OK) {
			return false
		}
	}
	return slices.Equal(w.told[0], w.told[1])
}

// H1 to H8: by many rows of calls, what stops do is what the chapter's words say, with functions that call in turn.
func TestModel(t *testing.T) {
	for seed := range int64(400) {
		r := rand.New(rand.NewSource(seed))
		w := new(two)
		w.make(-1, r.Intn(2)*r.Intn(60))
		for range 60 {
			if r.Intn(4) == 0 {
				w.make(r.Intn(len(w.stops)+1)-1, r.Intn(2)*r.Intn(40))
			}
			next := r.Int63()
			w.do(0, next, 0)
			w.do(1, next, 0)
			if !w.same() {
				t.Fatalf("seed %d: stops told\n%v\nnot\n%v", seed, w.told[0], w.told[1])
			}
		}
	}
}
