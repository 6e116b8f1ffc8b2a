package sample

import (
	"cmp"

	"spoor/api"
)

// Mix makes a number of a trace's name, so that names are spread.
func Mix(t api.TraceID) uint64 { return blend(t.Hi + blend(t.Lo)) }

// blend spreads numbers, one-to-one: each of its steps can be gone back, as the factors are odd.
func blend(v uint64) uint64 {
	v ^= v >> 31
	v *= 0x9E3779B97F4A7C15
	v ^= v >> 29
	v *= 0x6A09E667F3BCC909
	return v ^ v>>32
}

// order is that of traces: by their mixes, and, since two may have one, by their names.
func order(a, b api.TraceID) int {
	return cmp.Or(cmp.Compare(Mix(a), Mix(b)), cmp.Compare(a.Hi, b.Hi), cmp.Compare(a.Lo, b.Lo))
}
