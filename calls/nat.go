package calls

import (
	"math"
	"math/bits"

	"spoor/api"
)

// Cap is a natural number as 64 bits: the greatest, if it is more.
func Cap(n api.Nat) uint64 {
	if n != (api.Nat{Lo: n.Lo}) {
		return math.MaxUint64
	}
	return n.Lo
}

// holds tells whether m can be taken from n.
func holds(n, m api.Nat) bool {
	return n == m || n.Hi > m.Hi || n.Hi == m.Hi && n.Lo > m.Lo
}

// plus is the sum of both, or the greatest number there is, if the sum is above that.
func plus(n, m api.Nat) api.Nat {
	lo, over := bits.Add64(n.Lo, m.Lo, 0)
	hi, over := bits.Add64(n.Hi, m.Hi, over)
	if over > 0 {
		return api.Nat{Hi: math.MaxUint64, Lo: math.MaxUint64}
	}
	return api.Nat{Hi: hi, Lo: lo}
}

// minus is n less m, which n holds.
func minus(n, m api.Nat) api.Nat {
	lo, under := bits.Sub64(n.Lo, m.Lo, 0)
	hi, _ := bits.Sub64(n.Hi, m.Hi, under)
	return api.Nat{Hi: hi, Lo: lo}
}
