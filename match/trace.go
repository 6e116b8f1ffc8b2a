package match

import (
	"spoor/api"
	"spoor/forest"
	"spoor/own"
)

// trace is a forest as a query looks at it: its spans in a row, in which each one stands behind its parent. A span's number is its place there.
type trace struct {
	spots   []*spot
	parents []int // of each span its parent's number; none of a root
}

const none = -1

// spot is a span with all that its fields are asked of.
type spot struct {
	span  api.Span
	node  api.Node
	leaf  bool
	times func(id api.SpanID) api.Own // what own has of any span of the trace
}

// looked is the trace of a forest.
func looked(f *forest.Forest) *trace {
	t := &trace{}
	times := timesOf(f)
	numbers := map[api.SpanID]int{}
	for n := range f.Down() {
		parent, there := numbers[n.Parent] // of a root that is 0, which no span has as its ID
		if !there {
			parent = none
		}
		numbers[n.ID] = len(t.spots)
		t.spots = append(t.spots, spotOf(f, n, times))
		t.parents = append(t.parents, parent)
	}
	return t
}

// spotOf is the span of a node.
func spotOf(f *forest.Forest, n api.Node, times func(id api.SpanID) api.Own) *spot {
	s, _ := f.Span(n.ID)
	return &spot{span: s, node: n, leaf: len(f.Children(n.ID)) == 0, times: times}
}

// timesOf tells what own has of a span. All of a trace must be gone through for it: so that is done once, and only where a field is asked that needs it.
func timesOf(f *forest.Forest) func(id api.SpanID) api.Own {
	var times map[api.SpanID]api.Own
	return func(id api.SpanID) api.Own {
		if times == nil {
			times = map[api.SpanID]api.Own{}
			for _, x := range own.Times(f) {
				times[x.ID] = x
			}
		}
		return times[id]
	}
}

// attribute is the value of the span's attribute of a key; false, if it has none.
func (s *spot) attribute(key string) (api.Value, bool) {
	for _, a := range s.span.Attrs {
		if a.Key == key {
			return a.Value, true
		}
	}
	return api.Value{}, false
}

// among has the spans of a set.
func (t *trace) among(a set) []*spot {
	var l []*spot
	for i, s := range t.spots {
		if a[i] {
			l = append(l, s)
		}
	}
	return l
}
