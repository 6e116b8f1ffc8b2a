package rollup

import (
	"cmp"
	"slices"

	"spoor/api"
	"spoor/calls"
)

// piece names a window.
type piece struct {
	level  int
	number int64
}

// pieces cuts a range into windows, from its beginning on, each as wide as may be.
func (r *Rollup) pieces(from, to int64) []piece {
	var l []piece
	for from < to {
		k := r.widest(from, to)
		hours := r.levels[k].hours
		l = append(l, piece{k, from / hours})
		from += hours
	}
	return l
}

// widest is the level of the widest window that begins at from and does not go beyond to, which is above it.
func (r *Rollup) widest(from, to int64) int {
	k := len(r.levels) - 1
	for from%r.levels[k].hours > 0 || r.levels[k].hours > to-from {
		k--
	}
	return k
}

// set makes a tally that of an hour's edge. Of wider windows it says at once which edges they have; their sums are left till they are asked, when many hours may have changed.
func (r *Rollup) set(hour int64, e api.Edge, t api.Tally) {
	there := !nothing(t)
	if there {
		r.levels[0].at(hour, e).tally = t
	} else {
		r.levels[0].remove(hour, e)
	}
	for k := 1; k < len(r.levels); k++ {
		p := piece{k, hour / r.levels[k].hours}
		there = there || r.inPart(p, e)
		if !there {
			r.levels[k].remove(p.number, e)
			continue
		}
		s := r.levels[k].at(p.number, e)
		if s.stale {
			return
		}
		*s = sum{stale: true}
	}
}

// inPart tells whether one of the windows that a wider one is made of has an edge.
func (r *Rollup) inPart(p piece, e api.Edge) bool {
	for _, part := range r.parts(p) {
		if r.levels[part.level].windows[part.number][e] != nil {
			return true
		}
	}
	return false
}

// parts are the windows that a wider one is made of.
func (r *Rollup) parts(p piece) []piece {
	l := make([]piece, r.fan)
	for i := range l {
		l[i] = piece{p.level - 1, p.number*r.fan + int64(i)}
	}
	return l
}

// tally is that of a window's edge, which nobody may write into. It is made of the parts' tallies, not by what was put and taken: of a number that was cut to its greatest these know more.
func (r *Rollup) tally(p piece, e api.Edge) api.Tally {
	s := r.levels[p.level].windows[p.number][e]
	if s == nil {
		return api.Tally{}
	}
	if s.stale {
		var all api.Tally
		for _, part := range r.parts(p) {
			all = both(all, r.tally(part, e))
		}
		*s = sum{tally: all}
	}
	return s.tally
}

// edges has the edges of windows, rising, each with the sum of its tallies.
func (r *Rollup) edges(windows ...piece) []api.EdgeTally {
	sums := map[api.Edge]api.Tally{}
	for _, p := range windows {
		for e := range r.levels[p.level].windows[p.number] {
			sums[e], _ = calls.Plus(sums[e], r.tally(p, e))
		}
	}
	l := make([]api.EdgeTally, 0, len(sums))
	for e, t := range sums {
		l = append(l, api.EdgeTally{Edge: e, Tally: t})
	}
	slices.SortFunc(l, func(a, b api.EdgeTally) int {
		return cmp.Or(cmp.Compare(a.Edge.From, b.Edge.From), cmp.Compare(a.Edge.To, b.Edge.To))
	})
	return l
}

// tell has windows as they are told.
func (r *Rollup) tell(l []piece) []api.Window {
	told := make([]api.Window, len(l))
	for i, p := range l {
		hours := r.levels[p.level].hours
		told[i] = api.Window{From: p.number * hours, Hours: hours, Edges: r.edges(p)}
	}
	return told
}
