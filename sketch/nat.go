package sketch

import (
	"math/bits"

	"spoor/api"
)

// plus is the sum of both. All values of a sketch are less than 1920 times 2^64: so it never goes round.
func plus(n api.Nat, m uint64) api.Nat {
	lo, over := bits.Add64(n.Lo, m, 0)
	return api.Nat{Hi: n.Hi + over, Lo: lo}
}

func below(n, m api.Nat) bool {
	return n.Hi < m.Hi || n.Hi == m.Hi && n.Lo < m.Lo
}

// rank is the least whole number that is 1 at least and not below num n / den. As n is less than 2^75 and num at most 1000000, the product fits.
func rank(n api.Nat, num, den uint64) api.Nat {
	over, lo := bits.Mul64(n.Lo, num)
	hi := n.Hi*num + over
	q, rest := divide(api.Nat{Hi: hi, Lo: lo}, den)
	if rest > 0 || q == (api.Nat{}) {
		q = plus(q, 1)
	}
	return q
}

// divide tells the quotient, rounded down, and what is left.
func divide(n api.Nat, by uint64) (api.Nat, uint64) {
	hi, left := n.Hi/by, n.Hi%by
	lo, left := bits.Div64(left, n.Lo, by)
	return api.Nat{Hi: hi, Lo: lo}, left
}
