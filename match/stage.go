package match

import (
	"cmp"
	"slices"

	"spoor/api"
)

// done is what a stage that may be leaves of spans.
func done(s api.Stage, l []*spot) []*spot {
	if s.Name == "top" {
		return top(l, s.Field, int(s.Int))
	}
	if len(l) == 0 || !stands(against(amount(s, l), s.Int), s.Op) {
		return nil
	}
	return l
}

// top has the n spans that have the greatest numbers of a field.
func top(l []*spot, field string, n int) []*spot {
	ask := askerOf(field)
	order := slices.SortedFunc(slices.Values(l), func(a, b *spot) int {
		x, _ := ask(a)
		y, _ := ask(b)
		return cmp.Or(cmp.Compare(y.Int, x.Int), cmp.Compare(a.node.ID, b.node.ID))
	})
	return order[:min(n, len(order))]
}

// amount is what a stage holds against its number, of spans of which there is one at least.
func amount(s api.Stage, l []*spot) uint64 {
	if s.Name == "count" {
		return uint64(len(l))
	}
	numbers := numbersOf(s.Field, l)
	switch s.Name {
	case "max":
		return slices.Max(numbers)
	case "min":
		return slices.Min(numbers)
	}
	return sum(numbers)
}

// numbersOf has what spans have of a field whose numbers are from 0 on.
func numbersOf(field string, l []*spot) []uint64 {
	ask := askerOf(field)
	numbers := make([]uint64, 0, len(l))
	for _, s := range l {
		v, _ := ask(s)
		numbers = append(numbers, uint64(v.Int))
	}
	return numbers
}

// sum ends at 2^63, above all that it is held against: with one more of the numbers, which are at most 2^62, it would not go round yet.
func sum(numbers []uint64) uint64 {
	all := uint64(0)
	for _, n := range numbers {
		all = min(all+n, 1<<63)
	}
	return all
}

// against is how an amount stands to a number: -1, 0 or 1.
func against(amount uint64, n int64) int {
	if n < 0 {
		return 1
	}
	return cmp.Compare(amount, uint64(n))
}
