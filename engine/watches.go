package engine

import (
	"cmp"
	"slices"

	"spoor/api"
)

// Watch makes a watch; what is found from now on waits.
func (e *Engine) Watch(q api.Query, room int) (int, api.Errno) {
	w, n := e.hub.Open(q, room)
	if n == api.OK {
		e.watching++
	}
	return w, n
}

// Take tells hits that wait.
func (e *Engine) Take(w int, most int) ([]api.Hit, int, api.Errno) { return e.hub.Take(w, most) }

// Unwatch ends a watch.
func (e *Engine) Unwatch(w int) api.Errno {
	n := e.hub.Close(w)
	if n == api.OK {
		e.watching--
	}
	return n
}

// feed tells the watches how the traces are that a batch has spans of, by rising traces. Without a watch nobody sees that, and the trees need not be made.
func (e *Engine) feed(l []api.Span) {
	if e.watching == 0 {
		return
	}
	e.settle()
	for _, t := range tracesOf(l) {
		e.hub.Feed(t, e.spans.forests[t])
	}
}

// tracesOf has the traces of spans, rising, each once.
func tracesOf(l []api.Span) []api.TraceID {
	traces := make([]api.TraceID, len(l))
	for i := range l {
		traces[i] = l[i].Trace
	}
	slices.SortFunc(traces, compareTraces)
	return slices.Compact(traces)
}

func compareTraces(a, b api.TraceID) int {
	return cmp.Or(cmp.Compare(a.Hi, b.Hi), cmp.Compare(a.Lo, b.Lo))
}
