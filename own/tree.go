package own

import (
	"cmp"
	"slices"

	"spoor/api"
	"spoor/forest"
)

// tree is a root with all that is beneath it.
type tree struct {
	clip api.Interval              // the root's
	ends []int64                   // at which Clips begin and end, in no order
	look func(at int64) api.SpanID // the root's owner; a tree is gone through once, by rising moments
}

// spot is a span of a tree, with its children at the moment up to which it was gone through.
type spot struct {
	id      api.SpanID
	clip    api.Interval
	waiting []*spot // those that have not begun yet, the next one first
	running []*spot // those that have, the one to go on to last; beneath it some may have ended
}

// grown is the tree of a root.
func grown(f *forest.Forest, root api.SpanID) *tree {
	t := &tree{}
	s := t.grow(f, root)
	t.clip, t.look = s.clip, s.owner
	return t
}

// grow puts a span and all that is beneath it into the tree.
func (t *tree) grow(f *forest.Forest, id api.SpanID) *spot {
	n, _ := f.Node(id)
	s := &spot{id: id, clip: n.Clip}
	t.ends = append(t.ends, n.Clip.From, n.Clip.To)
	for _, c := range f.Children(id) {
		s.waiting = append(s.waiting, t.grow(f, c))
	}
	// Of several that begin together the least ID comes last, and so stands above the others.
	slices.SortFunc(s.waiting, func(a, b *spot) int {
		return cmp.Or(cmp.Compare(a.clip.From, b.clip.From), cmp.Compare(b.id, a.id))
	})
	return s
}

// legs has all stretches of the tree's spans. Between two ends that stand one behind the other nothing begins or ends, so the first moment's owner has them all.
func (t *tree) legs() []api.Leg {
	slices.Sort(t.ends)
	ends := slices.Compact(t.ends)
	var l []api.Leg
	for i, to := range ends[1:] {
		from := ends[i]
		id := t.look(from)
		if last := len(l) - 1; last >= 0 && l[last].Owner == id {
			l[last].To = to
		} else {
			l = append(l, api.Leg{Owner: id, From: from, To: to})
		}
	}
	return l
}

// owner goes down from a span that is running at a moment to the one that owns it. No later call may ask for an earlier moment.
func (s *spot) owner(at int64) api.SpanID {
	for next := s; next != nil; next = s.next(at) {
		s = next
	}
	return s.id
}

// next is the child to go on to at a moment, or nil: of those that have begun and not ended the one that came last. What has ended by then is let go, since moments rise.
func (s *spot) next(at int64) *spot {
	for len(s.waiting) > 0 && s.waiting[0].clip.From <= at {
		s.running = append(s.running, s.waiting[0])
		s.waiting = s.waiting[1:]
	}
	for last := len(s.running) - 1; last >= 0; last-- {
		if at < s.running[last].clip.To {
			return s.running[last]
		}
		s.running = s.running[:last]
	}
	return nil
}
