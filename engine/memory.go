package engine

import (
	"spoor/api"
	"spoor/calls"
	"spoor/forest"
	"spoor/index"
	"spoor/rollup"
	"spoor/store"
)

// memory is S, and what hangs on S alone. None of its calls is exported, so that nobody puts into an Engine, which embeds it, what its journal does not have.
type memory struct {
	spans   traces
	stale   map[api.TraceID]struct{} // those that have changed since their trees, tallies and terms were made
	tallies *rollup.Rollup
	terms   *index.Index
}

// traces is S with the trees of its traces.
type traces struct {
	*store.Store
	forests map[api.TraceID]*forest.Forest
}

// newMemory has an empty S; the fan is one that may be.
func newMemory(fan int) memory {
	tallies, _ := rollup.New(fan)
	return memory{
		spans:   traces{store.New(), map[api.TraceID]*forest.Forest{}},
		stale:   map[api.TraceID]struct{}{},
		tallies: tallies,
		terms:   index.New(),
	}
}

// put puts spans into S, or none. What hangs on their traces is left till it is asked, since many batches may come ahead of that.
func (m *memory) put(l []api.Span) ([]api.Change, api.Errno) {
	became, n := m.spans.Put(l)
	if n != api.OK {
		return nil, n
	}
	for i, c := range became {
		if c != api.Kept {
			m.stale[l[i].Trace] = struct{}{}
		}
	}
	return became, api.OK
}

// settle makes all that hangs on S as S is now. In which order the traces come is not seen: tallies are sums, and terms stand by traces.
func (m *memory) settle() {
	for t := range m.stale {
		m.renew(t)
	}
	clear(m.stale)
}

// renew makes what hangs on one trace. Nothing is refused here: the store has spans that may be alone, of one trace 1000 at most, whose hours all may be.
func (m *memory) renew(t api.TraceID) {
	l := m.spans.Trace(t)
	f, _ := forest.Build(l)
	m.count(m.spans.forests[t], f)
	m.spans.forests[t] = f
	m.terms.Set(t, l)
}

// count takes the calls of a trace as it was back, and counts those of the trace as it is.
func (m *memory) count(elder, f *forest.Forest) {
	gone, come := calls.Delta(calls.Of(elder), calls.Of(f))
	for _, c := range gone {
		m.tallies.Take(c.Hour, c.Edge, calls.One(c))
	}
	for _, c := range come {
		m.tallies.Put(c.Hour, c.Edge, calls.One(c))
	}
}
