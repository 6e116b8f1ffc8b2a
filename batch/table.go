package batch

import "spoor/api"

// table has things that are all unlike, numbered from 0 on as they came.
type table[T comparable] struct {
	rows    []T
	numbers map[T]uint64
}

func newTable[T comparable]() *table[T] { return &table[T]{numbers: map[T]uint64{}} }

// number tells a thing's number, and whether it is a new one, which has come now.
func (t *table[T]) number(v T) (n uint64, fresh bool) {
	n, there := t.numbers[v]
	if !there {
		n = uint64(len(t.rows))
		t.numbers[v] = n
		t.rows = append(t.rows, v)
	}
	return n, !there
}

// heard is a table as it was read, of which the fields are to speak in its order.
type heard[T comparable] struct {
	*table[T]
	places []int // where each one begins
	spoken uint64
}

// hear takes a table: how many there are, then one by one.
func hear[T comparable](t *taker, one func() T) *heard[T] {
	h := &heard[T]{table: newTable[T]()}
	for range must(t.Uint()) {
		at := t.At()
		if _, fresh := h.number(one()); !fresh {
			giveUp(at, api.ErrBatchName)
		}
		h.places = append(h.places, at)
	}
	return h
}

// next takes the number of one of them.
func (h *heard[T]) next(t *taker) T {
	at := t.At()
	n := must(t.Uint())
	switch {
	case n >= uint64(len(h.rows)):
		giveUp(at, api.ErrBatchForm)
	case n > h.spoken:
		giveUp(at, api.ErrBatchName)
	case n == h.spoken:
		h.spoken++
	}
	return h.rows[n]
}

// end looks whether each one was spoken of.
func (h *heard[T]) end() {
	if h.spoken < uint64(len(h.rows)) {
		giveUp(h.places[h.spoken], api.ErrBatchName)
	}
}
