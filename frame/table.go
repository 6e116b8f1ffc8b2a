package frame

// divisor's bits are those of 1edc6f41, the other way round, since the lowest bit of each byte comes first.
const divisor = 0x82f63b78

// table holds what eight steps make of each byte, so that a sum takes one step a byte. It is made anew for each call: nothing is kept, and a table of this length may not stand at package level.
type table [256]uint32

func newTable() table {
	var t table
	for i := range len(t) {
		state := uint32(i)
		for range 8 {
			state = state>>1 ^ divisor&-(state&1)
		}
		t[i] = state
	}
	return t
}

// more goes on from the state that a sum was made of.
func (t *table) more(sum uint32, b []byte) uint32 {
	state := ^sum
	for _, c := range b {
		state = state>>8 ^ t[byte(state)^c]
	}
	return ^state
}
