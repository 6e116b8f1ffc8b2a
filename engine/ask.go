package engine

import (
	"slices"

	"spoor/api"
	"spoor/forest"
	"spoor/halt"
	"spoor/index"
	"spoor/lang"
	"spoor/own"
	"spoor/sweep"
)

// mostNumber is what a request's number counts as, if it is more.
const mostNumber = 1<<31 - 1

// Ask answers a request.
func (e *Engine) Ask(request []byte) []byte {
	r, is := readRequest(request)
	if !is {
		return refusal(api.ErrEngineRequest)
	}
	e.settle()
	a := newAnswer()
	a.Uint(uint64(api.OK))
	if err := e.tell(a, r); err != nil {
		return refusal(err)
	}
	return a.Bytes()
}

// tell lays down what stands behind the 0, or tells why there is nothing.
func (e *Engine) tell(a answer, r request) error {
	switch r.kind {
	case askHits, askPlan:
		return e.tellQuery(a, r)
	case askTraces:
		e.tellTraces(a, r)
		return nil
	case askCounts:
		e.tellCounts(a)
		return nil
	case askRange, askTop, askCover:
		return failing(e.tellTallies(a, r))
	}
	return failing(e.tellTrace(a, r))
}

// failing is a number as an error: OK is none.
func failing(n api.Errno) error {
	if n == api.OK {
		return nil
	}
	return n
}

// tellTrace is of the kinds that ask of one trace.
func (e *Engine) tellTrace(a answer, r request) api.Errno {
	f, there := e.spans.forests[r.trace]
	if !there {
		return api.ErrEngineNone
	}
	switch r.kind {
	case askSpans:
		list(a, e.spans.Trace(r.trace), a.span)
	case askForest:
		list(a, slices.Collect(f.Down()), a.node)
	case askTimes:
		list(a, own.Times(f), a.times)
	case askChain:
		list(a, sweep.Chain(f), a.hop)
	default:
		return tellTree(a, r, f)
	}
	return api.OK
}

// tellTree is of the kinds that ask of one tree.
func tellTree(a answer, r request, f *forest.Forest) api.Errno {
	if !slices.Contains(f.Roots(), r.root) {
		return api.ErrEngineNone
	}
	if r.kind == askPath {
		legs, n := sweep.Path(f, r.root)
		list(a, legs, a.leg)
		return n
	}
	hung, _ := sweep.Services(f, r.root)
	owned, n := own.Services(f, r.root)
	list(a, hung, a.service)
	list(a, owned, a.service)
	return n
}

// tellTallies is of the kinds that ask of hours.
func (e *Engine) tellTallies(a answer, r request) api.Errno {
	switch r.kind {
	case askRange:
		l, n := e.tallies.Range(r.from, r.to)
		list(a, l, a.row)
		return n
	case askTop:
		l, n := e.tallies.Top(r.from, r.to, atMost(r.by), atMost(r.most))
		list(a, l, a.row)
		return n
	}
	l, n := e.tallies.Cover(r.from, r.to)
	list(a, l, a.window)
	return n
}

func atMost(n uint64) int { return int(min(n, mostNumber)) }

func (e *Engine) tellTraces(a answer, r request) {
	l := e.spans.Traces()
	behind, there := slices.BinarySearchFunc(l, r.trace, compareTraces)
	if there {
		behind++
	}
	l = l[behind:]
	list(a, l[:min(r.most, api.MaxTop, uint64(len(l)))], func(t api.TraceID) {
		a.trace(t)
		a.Uint(uint64(e.spans.forests[t].Count()))
	})
}

func (e *Engine) tellCounts(a answer) {
	a.Uint(uint64(e.spans.Count()))
	a.Uint(uint64(len(e.spans.forests)))
	first, behind := e.tallies.Hours()
	a.Int(first)
	a.Int(behind)
}

// tellQuery is of the kinds that have a query, whose fault has a place.
func (e *Engine) tellQuery(a answer, r request) error {
	q, err := lang.Parse(r.query)
	if err != nil {
		return err
	}
	if r.kind == askHits {
		return failing(e.tellHits(a, q, r.budget))
	}
	return failing(e.tellPlan(a, q))
}

func (e *Engine) tellHits(a answer, q api.Query, budget uint64) api.Errno {
	var stop *halt.Stop
	if budget > 0 {
		stop, _ = halt.New(atMost(budget))
	}
	hits, n := e.Search(q, stop)
	list(a, hits, a.hit)
	return n
}

func (e *Engine) tellPlan(a answer, q api.Query) api.Errno {
	terms, _ := index.Plan(q)
	candidates, n := e.terms.Candidates(q)
	list(a, terms, a.term)
	a.Uint(uint64(len(candidates)))
	return n
}
