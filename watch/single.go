package watch

import (
	"slices"

	"spoor/api"
)

// watch is a query that stands.
type watch struct {
	number  int
	query   api.Query
	room    int
	found   map[api.Hit]struct{} // all that ever were, also those that were lost or taken: none of them comes again
	waiting []api.Hit            // the eldest first
	lost    int                  // since the last take
}

func newWatch(number int, q api.Query, room int) *watch {
	return &watch{number: number, query: copied(q), room: room, found: map[api.Hit]struct{}{}}
}

// find takes a hit in, if it is new.
func (w *watch) find(hit api.Hit) {
	if _, known := w.found[hit]; known {
		return
	}
	w.found[hit] = struct{}{}
	if len(w.waiting) == w.room {
		w.lost++
		return
	}
	w.waiting = append(w.waiting, hit)
}

// take lets go of the eldest hits, and of how many were lost.
func (w *watch) take(most int) ([]api.Hit, int) {
	n := min(most, len(w.waiting))
	l := append([]api.Hit(nil), w.waiting[:n]...)
	lost := w.lost
	w.waiting, w.lost = w.waiting[n:], 0
	return l, lost
}

// next lets go of the eldest hit, if one waits.
func (w *watch) next() (api.Hit, bool) {
	if len(w.waiting) == 0 {
		return api.Hit{}, false
	}
	eldest := w.waiting[0]
	w.waiting = w.waiting[1:]
	return eldest, true
}

// copied is a query that shares no list with another one, whose owner may write into it.
func copied(q api.Query) api.Query {
	return api.Query{Set: copiedTree(q.Set), Stages: slices.Clone(q.Stages)}
}

func copiedTree(e api.Expr) api.Expr {
	e.Args = slices.Clone(e.Args)
	for i, part := range e.Args {
		e.Args[i] = copiedTree(part)
	}
	return e
}
