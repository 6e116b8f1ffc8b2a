package sample

import (
	"math"
	"math/bits"
	"slices"

	"spoor/api"
)

// Few has the traces of least Mix, a number of them at most.
type Few struct {
	most   int
	traces []api.TraceID // in the order
}

// NewFew makes one that has at most so many.
func NewFew(most int) (*Few, api.Errno) {
	if most < 2 || most > api.MaxTop {
		return nil, api.ErrArg
	}
	return &Few{most: most}, api.OK
}

// Put puts a trace in.
func (f *Few) Put(t api.TraceID) bool {
	l, there := keep(f.traces, t, f.most, order)
	f.traces = l
	return there
}

// Merge puts all of another one in.
func (f *Few) Merge(o *Few) api.Errno {
	if o == nil || o.most != f.most {
		return api.ErrArg
	}
	for _, t := range o.traces {
		f.Put(t)
	}
	return api.OK
}

// Traces tells them, by rising Mix.
func (f *Few) Traces() []api.TraceID { return slices.Clone(f.traces) }

// Guess tells about how many traces were put in.
func (f *Few) Guess() uint64 {
	if len(f.traces) < f.most {
		return uint64(len(f.traces))
	}
	ahead, m := uint64(f.most-1), Mix(f.traces[f.most-1])
	switch {
	case m == math.MaxUint64: // m + 1 would be 0 here: it is 2^64
		return ahead
	case m < ahead: // 2^64 or more
		return math.MaxUint64
	}
	n, _ := bits.Div64(ahead, 0, m+1)
	return n
}

// keep puts one into a list that rises by an order, if it is not there, and lets the last one go, if there are more than most then. Is it there afterwards?
func keep[T any](l []T, v T, most int, order func(a, b T) int) ([]T, bool) {
	at, there := slices.BinarySearchFunc(l, v, order)
	switch {
	case there:
		return l, true
	case at == most:
		return l, false
	case len(l) == most:
		l = l[:most-1]
	}
	return slices.Insert(l, at, v), true
}
