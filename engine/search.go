package engine

import (
	"slices"

	"spoor/api"
	"spoor/forest"
	"spoor/gang"
	"spoor/halt"
	"spoor/match"
)

// Search tells what a query finds, in all traces.
func (e *Engine) Search(q api.Query, stop *halt.Stop) ([]api.Hit, api.Errno) {
	e.settle()
	candidates, n := e.terms.Candidates(q)
	if n != api.OK {
		return nil, n
	}
	forests := make([]*forest.Forest, len(candidates))
	for i, t := range candidates {
		forests[i] = e.spans.forests[t]
	}
	if n := spend(stop, q, forests); n != api.OK {
		return nil, n
	}
	found, n := gang.Map(stop, e.workers, len(candidates), func(i int) ([]api.Hit, api.Errno) {
		return hitsIn(candidates[i], forests[i], q)
	})
	if n != api.OK {
		return nil, n
	}
	return slices.Concat(found...), api.OK
}

// spend takes from a stop, if there is one, how many spans will be looked at.
func spend(stop *halt.Stop, q api.Query, forests []*forest.Forest) api.Errno {
	if stop == nil {
		return api.OK
	}
	steps := 0
	for _, f := range forests {
		n, _ := match.Steps(q, f) // Candidates has taken q already
		steps += n
	}
	return stop.Spend(steps)
}

// hitsIn has what a query finds in one trace.
func hitsIn(t api.TraceID, f *forest.Forest, q api.Query) ([]api.Hit, api.Errno) {
	ids, n := match.Find(q, f)
	hits := make([]api.Hit, len(ids))
	for i, id := range ids {
		hits[i] = api.Hit{Trace: t, ID: id}
	}
	return hits, n
}
