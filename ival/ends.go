package ival

import (
	"cmp"
	"slices"

	"spoor/api"
)

// The two kinds of ends that an interval has.
const (
	opens = iota
	closes
)

// end is one end of an interval of one of two lists.
type end struct {
	at   int64
	kind int
	list int
}

// walk goes along the ends of two lists in the order of time. It stands at a moment up to which all is told.
type walk struct {
	wanted func(inA, inB bool) bool
	open   [2]int // of each list: how many intervals have begun and not ended
	at     int64
	out    []api.Interval
}

// gather tells, in its form, the set of the moments that are wanted, by whether they are in a's set and in b's. What is in neither may not be wanted: no end stands ahead of it, or behind it.
func gather(a, b []api.Interval, wanted func(inA, inB bool) bool) []api.Interval {
	w := walk{wanted: wanted}
	for _, e := range endsOf(a, b) {
		w.pass(e)
	}
	return w.out
}

// endsOf has the ends of all intervals that are not empty, in the order of time. Ends at one moment may stand in any order, as nothing lies between them.
func endsOf(a, b []api.Interval) []end {
	ends := make([]end, 0, 2*(len(a)+len(b)))
	for list, l := range [...][]api.Interval{a, b} {
		for _, i := range l {
			if !empty(i) {
				ends = append(ends, end{i.From, opens, list}, end{i.To, closes, list})
			}
		}
	}
	slices.SortFunc(ends, func(x, y end) int { return cmp.Compare(x.at, y.at) })
	return ends
}

// pass goes past one end. Whatever is open from there on, the stretch ahead of it is over: so an end that opens an interval closes too.
func (w *walk) pass(e end) {
	step := -1
	switch e.kind {
	case opens:
		step = 1
		fallthrough
	case closes:
		w.closeAt(e.at)
		w.open[e.list] += step
	}
}

// closeAt tells the stretch from where the walk stands up to a moment, if it is wanted, and goes there.
func (w *walk) closeAt(at int64) {
	if w.at != at && w.wanted(w.open[0] > 0, w.open[1] > 0) {
		w.tell(api.Interval{From: w.at, To: at})
	}
	w.at = at
}

// tell adds a stretch to the answer. One that touches the last one makes it longer, lest the answer fall out of its form.
func (w *walk) tell(a api.Interval) {
	last := len(w.out) - 1
	if last >= 0 && w.out[last].To == a.From {
		w.out[last].To = a.To
		return
	}
	w.out = append(w.out, a)
}
