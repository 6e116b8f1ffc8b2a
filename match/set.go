package match

import (
	"slices"

	"spoor/api"
)

// set says of each span of a row, by its number, whether it is in it.
type set []bool

// pick is the set of those of n numbers of which something is so.
func pick(n int, is func(i int) bool) set {
	l := make(set, n)
	for i := range l {
		l[i] = is(i)
	}
	return l
}

func both(a, b set) set   { return pick(len(a), func(i int) bool { return a[i] && b[i] }) }
func either(a, b set) set { return pick(len(a), func(i int) bool { return a[i] || b[i] }) }
func not(a set) set       { return pick(len(a), func(i int) bool { return !a[i] }) }

// set is what an expression that may be has of the trace.
func (t *trace) set(e *api.Expr) set {
	if e.Op == api.OpSpans {
		return t.spans(e.Args)
	}
	a, b := t.set(&e.Args[0]), t.set(&e.Args[1])
	switch e.Op {
	case api.OpChild:
		return both(b, t.children(a))
	case api.OpBelow:
		return both(b, t.beneath(a))
	case api.OpBeside:
		return both(b, t.beside(a))
	case api.OpBoth:
		if !slices.Contains(a, true) || !slices.Contains(b, true) {
			return make(set, len(t.spots))
		}
	}
	return either(a, b)
}

// spans has those for which a condition holds; without one all.
func (t *trace) spans(args []api.Expr) set {
	if len(args) == 0 {
		return pick(len(t.spots), func(int) bool { return true })
	}
	return holding(&args[0], t.spots)
}

// children has the spans whose parent is in a set.
func (t *trace) children(a set) set {
	return pick(len(a), func(i int) bool { return t.parents[i] != none && a[t.parents[i]] })
}

// beneath has the spans above which there is one of a set. What is above a span stands ahead of it, and is known already.
func (t *trace) beneath(a set) set {
	l := make(set, len(a))
	for i, p := range t.parents {
		l[i] = p != none && (a[p] || l[p])
	}
	return l
}

// beside has the spans of whose parent's children another one is in a set.
func (t *trace) beside(a set) set {
	in := make([]int, len(a)) // of each span how many of its children are in it
	for i, p := range t.parents {
		if p != none && a[i] {
			in[p]++
		}
	}
	return pick(len(a), func(i int) bool {
		p := t.parents[i]
		return p != none && (in[p] > 1 || in[p] == 1 && !a[i])
	})
}
