package sketch

import (
	"math"
	"math/bits"

	"spoor/api"
)

// The number of the first bar of each kind.
const (
	narrow = 64 * iota // a bar has one value
	wide               // a bar has the values of one highest bit that are alike in the next bits
)

const (
	nextBits = 5             // by which the wide bars of one highest bit are told apart
	row      = 1 << nextBits // how many these are
	wideBit  = 6             // the highest bit of the values of the first row
)

// Index tells in which bar a value is.
func Index(v uint64) int {
	if v < wide-narrow {
		return narrow + int(v)
	}
	high := bits.Len64(v) - 1
	next := int(v>>(high-nextBits)) - row // the highest bit itself is taken off
	return wide + row*(high-wideBit) + next
}

// Span tells the least and the greatest value of a bar.
func Span(i int) (uint64, uint64, api.Errno) {
	if i < narrow || i >= api.MaxBars {
		return 0, 0, api.ErrArg
	}
	if i < wide {
		v := uint64(i - narrow)
		return v, v, api.OK
	}
	high, next := wideBit+(i-wide)/row, (i-wide)%row
	free := high - nextBits // bits that differ within the bar
	least := uint64(row+next) << free
	return least, least + (1<<free - 1), api.OK
}

// counts has of each bar, at its number, how many values are in it.
type counts struct {
	of   [api.MaxBars]uint64
	used int // bars that have any: with them the answer is whole, and needs no more room
}

// put counts so many more in a bar.
func (c *counts) put(i int, more uint64) {
	had := c.of[i]
	sum, over := bits.Add64(had, more, 0)
	if over > 0 {
		sum = math.MaxUint64
	}
	if c.of[i] = sum; had == 0 && sum > 0 {
		c.used++
	}
}

func (c *counts) putAll(l []api.Bar) {
	for _, b := range l {
		c.put(b.Index, b.Count)
	}
}

// takeAll tells whether there was as much as was to be taken; if not, what is left then is of no use.
func (c *counts) takeAll(l []api.Bar) bool {
	for _, b := range l {
		if c.of[b.Index] < b.Count {
			return false
		}
		if c.of[b.Index] -= b.Count; c.of[b.Index] == 0 {
			c.used--
		}
	}
	return true
}

// bars is the sketch of what was counted.
func (c *counts) bars() []api.Bar {
	l := make([]api.Bar, 0, c.used)
	for i := 0; len(l) < c.used; i++ {
		if n := c.of[i]; n > 0 {
			l = append(l, api.Bar{Index: i, Count: n})
		}
	}
	return l
}
