package calls

import (
	"cmp"
	"slices"

	"spoor/api"
)

// order is below 0, 0 or above 0, as x stands ahead of y, is the same call, or stands behind it.
func order(x, y api.Call) int {
	return cmp.Or(
		cmp.Compare(x.Hour, y.Hour),
		cmp.Compare(x.Edge.From, y.Edge.From),
		cmp.Compare(x.Edge.To, y.Edge.To),
		cmp.Compare(failures(x), failures(y)),
		cmp.Compare(x.Took, y.Took),
	)
}

// failures is how many failed calls a call is.
func failures(c api.Call) uint64 {
	if c.Failed {
		return 1
	}
	return 0
}

// inOrder has the calls in their order, in new memory.
func inOrder(l []api.Call) []api.Call {
	l = slices.Clone(l)
	slices.SortFunc(l, order)
	return l
}

// without has the calls of a, each as many times as a has it more often than b. All of them stand in their order.
func without(a, b []api.Call) []api.Call {
	var l []api.Call
	for _, c := range a {
		for len(b) > 0 && order(b[0], c) < 0 {
			b = b[1:]
		}
		if len(b) > 0 && b[0] == c {
			b = b[1:] // one of b makes up for one of a
			continue
		}
		l = append(l, c)
	}
	return l
}
