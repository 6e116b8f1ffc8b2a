package watch_test

import (
	"math/rand/v2"
	"slices"
	"testing"

	"spoor/api"
	"spoor/forest"
	"spoor/halt"
	"spoor/match"
	"spoor/watch"
)

// The model keeps every hit that was ever found, with what became of it, and asks that list for everything.

type state int

const (
	waiting state = iota
	gone
	lost   // and not told yet
	missed // lost, and told
)

type entry struct {
	hit   api.Hit
	state state
}

type plainWatch struct {
	query  api.Query
	room   int
	closed bool
	found  []entry
}

func (p *plainWatch) count(s state) int {
	n := 0
	for _, x := range p.found {
		if x.state == s {
			n++
		}
	}
	return n
}

// take tells the first ones that are in a state, and puts them into another one.
func (p *plainWatch) take(most int, from, to state) []api.Hit {
	var l []api.Hit
	for i := range p.found {
		if len(l) < most && p.found[i].state == from {
			p.found[i].state = to
			l = append(l, p.found[i].hit)
		}
	}
	return l
}

func (p *plainWatch) feed(t api.TraceID, f *forest.Forest) {
	ids, _ := match.Find(p.query, f)
	for _, id := range ids {
		hit := api.Hit{Trace: t, ID: id}
		if slices.ContainsFunc(p.found, func(x entry) bool { return x.hit == hit }) {
			continue
		}
		if p.count(waiting) < p.room {
			p.found = append(p.found, entry{hit, waiting})
		} else {
			p.found = append(p.found, entry{hit, lost})
		}
	}
}

// plainHub has all watches there ever were, by their numbers.
type plainHub []*plainWatch

func (p plainHub) at(w int) *plainWatch {
	if w < 0 || w >= len(p) || p[w].closed {
		return nil
	}
	return p[w]
}

func (p plainHub) open() int {
	n := 0
	for _, x := range p {
		if !x.closed {
			n++
		}
	}
	return n
}

// next is one step of a Follow; false: that is all.
func (p plainHub) next(w int, stop *halt.Stop) (pair, bool) {
	x := p.at(w)
	if x == nil {
		return pair{err: api.ErrWatchNone}, true
	}
	if stop != nil && stop.Why() != api.OK {
		return pair{err: stop.Why()}, true
	}
	if l := x.take(1, waiting, gone); len(l) == 1 {
		return pair{hit: l[0]}, true
	}
	return pair{}, false
}

// rig is a hub beside its model; both are called alike.
type rig struct {
	t *testing.T
	r *rand.Rand
	h *watch.Hub
	p plainHub
}

// drawn is a trace with some of its spans, which are unlike each time.
func (g *rig) drawn() (api.TraceID, *forest.Forest) {
	name := api.TraceID{Hi: uint64(g.r.IntN(2)), Lo: 1 + uint64(g.r.IntN(2))}
	var l []api.Span
	for id := range api.SpanID(8) {
		if g.r.IntN(3) == 0 {
			l = append(l, with(one(name, id+1), func(s *api.Span) {
				s.Parent, s.Status, s.End = api.SpanID(g.r.IntN(9)), api.Status(g.r.IntN(3)), 2+g.r.Int64N(9)
			}))
		}
	}
	return name, built(g.t, l...)
}

func (g *rig) open() {
	queries := []string{`{}`, `{status = failed}`, `{} > {}`, `{} | top 2 by dur`, `{dur > 5} | count > 1`, `{root = true} || {leaf = true}`}
	q, room := read(g.t, queries[g.r.IntN(len(queries))]), 1+g.r.IntN(4)
	want, e := len(g.p), api.OK
	switch n := g.r.IntN(12); {
	case n == 0:
		q, room, want, e = api.Query{}, g.r.IntN(2), 0, api.ErrLangTree
	case n == 1:
		room, want, e = []int{0, -room, 1000 + room}[g.r.IntN(3)], 0, api.ErrArg
	case g.p.open() == 16:
		want, e = 0, api.ErrWatchMany
	default:
		if n < 6 {
			room = 1000
		}
		g.p = append(g.p, &plainWatch{query: q, room: room})
	}
	if w, got := g.h.Open(q, room); w != want || got != e {
		g.t.Fatalf("Open: %d, %v; not %d, %v", w, got, want, e)
	}
}

func (g *rig) feed() {
	name, f := g.drawn()
	want := api.OK
	switch g.r.IntN(20) {
	case 0:
		name, want = api.TraceID{}, api.ErrArg
	case 1:
		f, want = nil, api.ErrArg
	default:
		for _, x := range g.p {
			if !x.closed {
				x.feed(name, f)
			}
		}
	}
	if e := g.h.Feed(name, f); e != want {
		g.t.Fatalf("Feed: %v, not %v", e, want)
	}
}

func (g *rig) take(w, most int) {
	var want []api.Hit
	n, e := 0, api.OK
	switch x := g.p.at(w); {
	case x == nil:
		e = api.ErrWatchNone
	case most < 0:
		e = api.ErrArg
	default:
		want, n = x.take(most, waiting, gone), len(x.take(len(x.found), lost, missed))
	}
	l, missing, got := g.h.Take(w, most)
	if !slices.Equal(l, want) || missing != n || got != e {
		g.t.Fatalf("Take(%d, %d): %v, %d, %v; not %v, %d, %v", w, most, l, missing, got, want, n, e)
	}
}

func (g *rig) waiting(w int) {
	want, e := 0, api.ErrWatchNone
	if x := g.p.at(w); x != nil {
		want, e = x.count(waiting), api.OK
	}
	if n, got := g.h.Waiting(w); n != want || got != e {
		g.t.Fatalf("Waiting(%d): %d, %v; not %d, %v", w, n, got, want, e)
	}
}

func (g *rig) shut(w int) {
	want := api.ErrWatchNone
	if x := g.p.at(w); x != nil {
		x.closed, want = true, api.OK
	}
	if e := g.h.Close(w); e != want {
		g.t.Fatalf("Close(%d): %v, not %v", w, e, want)
	}
}

// follow ranges over one, and does other things within, others like it among them.
func (g *rig) follow(w, deep int) {
	var stop *halt.Stop
	if g.r.IntN(3) > 0 {
		stop = made(g.t, 0)
	}
	if stop != nil && g.r.IntN(9) == 0 {
		stop.Cancel(api.ErrHalted)
	}
	ended, steps := false, 0
	for hit, e := range g.h.Follow(w, stop) {
		want, more := g.p.next(w, stop)
		if ended || !more || (pair{hit, e}) != want {
			g.t.Fatalf("Follow(%d): %v, %v; not %v, %v", w, hit, e, want, more)
		}
		if e != api.OK {
			ended = true
			continue
		}
		if steps++; steps > 6 || g.r.IntN(7) == 0 {
			return
		}
		for range g.r.IntN(3) {
			g.step(deep + 1)
		}
		if stop != nil && g.r.IntN(9) == 0 {
			stop.Cancel(api.Errno(1 + g.r.IntN(300)))
		}
	}
	if want, more := g.p.next(w, stop); !ended && more {
		g.t.Fatalf("Follow(%d) ended ahead of %v", w, want)
	}
}

func (g *rig) step(deep int) {
	w := g.r.IntN(len(g.p)+2) - 1
	if len(g.p) > 20 {
		w = len(g.p) + 1 - g.r.IntN(20)
	}
	switch n := g.r.IntN(30); {
	case n < 3:
		g.open()
	case n < 4:
		g.shut(w)
	case n < 14:
		g.feed()
	case n < 19:
		g.take(w, g.r.IntN(6)-1)
	case n < 22:
		g.waiting(w)
	case deep < 3:
		g.follow(w, deep)
	}
}

// P22.1, P22.2: rows of all calls, loops and what is done within them, held against the model.
func TestAgainstModel(t *testing.T) {
	r := rand.New(rand.NewPCG(22, 1))
	for range 150 {
		g := &rig{t: t, r: r, h: watch.New()}
		for range 250 {
			g.step(0)
		}
		for w := range g.p {
			g.waiting(w)
			g.take(w, 1000)
			g.waiting(w)
		}
	}
}
