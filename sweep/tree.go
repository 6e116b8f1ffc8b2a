package sweep

import (
	"slices"

	"spoor/api"
	"spoor/forest"
	"spoor/ival"
)

// tree is a root with all that is beneath it, and its path.
type tree struct {
	*spot           // the root's
	spans []*spot   // all, in no order
	legs  []api.Leg // the last one first, as long as the path is gone back
}

// spot is a span with what the sweep knows of it.
type spot struct {
	api.Span
	known
}

// known is what the sweep knows of a span. Its moments are those of its Clip, not of its interval.
type known struct {
	api.Interval
	children []*spot // those that have a moment: nobody waits for the others
	hung     uint64  // how many moments hang on it
}

// swept is the tree of a root.
func swept(f *forest.Forest, root api.SpanID) *tree {
	t := &tree{}
	t.spot = t.grow(f, root)
	t.back(t.spot, t.To)
	slices.Reverse(t.legs)
	return t
}

// grow puts a span and all that is beneath it into the tree.
func (t *tree) grow(f *forest.Forest, id api.SpanID) *spot {
	x, _ := f.Span(id)
	n, _ := f.Node(id)
	s := &spot{Span: x, known: known{Interval: n.Clip}}
	t.spans = append(t.spans, s)
	for _, child := range f.Children(id) {
		if c := t.grow(f, child); c.From < c.To {
			s.children = append(s.children, c)
		}
	}
	return s
}

// back goes along the path of a span up to a moment, from there back.
func (t *tree) back(s *spot, to int64) {
	for to > s.From {
		c := s.awaited(to)
		if c == nil {
			t.hang(s, s.From, to)
			return
		}
		end := c.until(to)
		t.hang(s, end, to)
		t.back(c, end)
		to = c.From
	}
}

// hang puts moments that hang on a span into the path. No two legs that touch are of one span: between two of its own stands the path of a child, which is not empty, and no span is come to twice.
func (t *tree) hang(s *spot, from, to int64) {
	if from < to {
		s.hung += ival.Length(api.Interval{From: from, To: to})
		t.legs = append(t.legs, api.Leg{Owner: s.ID, From: from, To: to})
	}
}

// awaited is the child for which a span waits up to a moment, or nil.
func (k *known) awaited(to int64) *spot {
	var last *spot
	for _, c := range k.children {
		if c.From < to && (last == nil || c.outlasts(last, to)) {
			last = c
		}
	}
	return last
}

// outlasts tells whether, up to a moment, a span is waited for rather than another one.
func (s *spot) outlasts(other *spot, to int64) bool {
	a, b := s.until(to), other.until(to)
	return a > b || a == b && s.ID < other.ID
}

// until is the moment at which a span ends, as far as it is asked up to a moment.
func (k *known) until(to int64) int64 { return min(k.To, to) }
