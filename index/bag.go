package index

import (
	"cmp"
	"maps"
	"slices"

	"spoor/api"
)

// bag has terms, each once. Nothing is ever taken out of one: so to go through it takes no longer than what it has.
type bag map[api.Term]struct{}

// bagOf has the terms of spans that may be.
func bagOf(l []api.Span) bag {
	b := bag{}
	for i := range l {
		for _, t := range termsOf(&l[i]) {
			b[t] = struct{}{}
		}
	}
	return b
}

// has tells whether all of these terms are there.
func (b bag) has(l []api.Term) bool {
	for _, t := range l {
		if _, in := b[t]; !in {
			return false
		}
	}
	return true
}

// rising has its terms in their order.
func (b bag) rising() []api.Term {
	return slices.SortedFunc(maps.Keys(b), func(s, t api.Term) int {
		return cmp.Or(cmp.Compare(s.Field, t.Field), cmp.Compare(s.Value, t.Value))
	})
}

// together has what one of two bags has. The greater one takes in the lesser one: so a long row of terms is put together in few steps.
func together(a, b bag) bag {
	a, b = byLength(a, b)
	maps.Copy(b, a)
	return b
}

// common has what both bags have.
func common(a, b bag) bag {
	a, b = byLength(a, b)
	l := bag{}
	for t := range a {
		if _, in := b[t]; in {
			l[t] = struct{}{}
		}
	}
	return l
}

// byLength has the one with fewer terms first.
func byLength(a, b bag) (bag, bag) {
	if len(b) < len(a) {
		return b, a
	}
	return a, b
}
