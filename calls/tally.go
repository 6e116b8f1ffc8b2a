package calls

import (
	"spoor/api"
	"spoor/sketch"
)

// One is the tally of a call.
func One(c api.Call) api.Tally {
	return api.Tally{
		Calls:  api.Nat{Lo: 1},
		Errors: api.Nat{Lo: failures(c)},
		Took:   api.Nat{Lo: c.Took},
		Bars:   []api.Bar{{Index: sketch.Index(c.Took), Count: 1}},
	}
}

// Plus puts two tallies together.
func Plus(a api.Tally, b api.Tally) (api.Tally, api.Errno) {
	bars, e := sketch.Merge(a.Bars, b.Bars)
	if e != api.OK {
		return api.Tally{}, e
	}
	return api.Tally{
		Calls:  plus(a.Calls, b.Calls),
		Errors: plus(a.Errors, b.Errors),
		Took:   plus(a.Took, b.Took),
		Bars:   bars,
	}, api.OK
}

// Minus takes b from a.
func Minus(a api.Tally, b api.Tally) (api.Tally, api.Errno) {
	bars, e := sketch.Less(a.Bars, b.Bars)
	if e == api.ErrSketchBars {
		return api.Tally{}, e
	}
	if e != api.OK || !holds(a.Calls, b.Calls) || !holds(a.Errors, b.Errors) || !holds(a.Took, b.Took) {
		return api.Tally{}, api.ErrCallsLess
	}
	return api.Tally{
		Calls:  minus(a.Calls, b.Calls),
		Errors: minus(a.Errors, b.Errors),
		Took:   minus(a.Took, b.Took),
		Bars:   bars,
	}, api.OK
}
