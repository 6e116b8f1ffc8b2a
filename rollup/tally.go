package rollup

import (
	"cmp"

	"spoor/api"
	"spoor/calls"
)

// numbers has a tally's natural numbers, in the order in which Top counts them.
func numbers(t api.Tally) [3]api.Nat { return [3]api.Nat{t.Calls, t.Errors, t.Took} }

func compare(n, m api.Nat) int { return cmp.Or(cmp.Compare(n.Hi, m.Hi), cmp.Compare(n.Lo, m.Lo)) }

// nothing tells whether a tally is no other than none.
func nothing(t api.Tally) bool { return numbers(t) == [3]api.Nat{} && len(t.Bars) == 0 }

// both is the sum of tallies that may be; if one is nothing, it is the other one itself, with its bars.
func both(a, b api.Tally) api.Tally {
	switch {
	case nothing(a):
		return b
	case nothing(b):
		return a
	}
	t, _ := calls.Plus(a, b)
	return t
}
