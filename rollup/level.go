package rollup

import (
	"slices"

	"spoor/api"
)

// level has the windows of one width that have something, by their numbers: number 0 begins at hour 0.
type level struct {
	hours   int64 // of a window
	windows map[int64]window
}

// window has its edges' sums, none of which is nothing.
type window map[api.Edge]*sum

// sum is a window's tally of an edge. Its bars are never written into, so that windows may share them; what is told of them is a copy.
type sum struct {
	tally api.Tally
	stale bool // an hour has changed: it is made anew when it is asked; all wider ones are stale too then
}

func newLevel(hours int64) level { return level{hours: hours, windows: map[int64]window{}} }

func (l level) has(n int64) bool { return l.windows[n] != nil }

// at is the sum of a window's edge, made if it is not there.
func (l level) at(n int64, e api.Edge) *sum {
	w := l.windows[n]
	if w == nil {
		w = window{}
		l.windows[n] = w
	}
	s := w[e]
	if s == nil {
		s = &sum{}
		w[e] = s
	}
	return s
}

// remove takes the sum of a window's edge away, and the window, if it has nothing any more.
func (l level) remove(n int64, e api.Edge) {
	w := l.windows[n]
	delete(w, e)
	if len(w) == 0 {
		delete(l.windows, n)
	}
}

// rising has the numbers of its windows in their order.
func (l level) rising() []int64 {
	numbers := make([]int64, 0, len(l.windows))
	for n := range l.windows {
		numbers = append(numbers, n)
	}
	slices.Sort(numbers)
	return numbers
}
