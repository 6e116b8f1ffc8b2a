package forest

import (
	"cmp"
	"slices"

	"spoor/api"
	"spoor/ival"
)

// nobody is the number of no spot.
const nobody = -1

// plant says which spots are roots, and puts the others among the children of those that they name. Who stands where in a tree is not known yet, nor is any order.
func (f *Forest) plant() {
	above := f.named()
	for _, at := range cuts(above) {
		above[at] = nobody
		f.spots[at].node.Origin = api.Looped
	}
	for i, at := range above {
		if at == nobody {
			f.spots[i].root()
			f.roots = append(f.roots, i)
		} else {
			f.spots[at].children = append(f.spots[at].children, i)
		}
	}
}

// named has for each spot the one that its span names as its parent, or nobody.
func (f *Forest) named() []int {
	l := make([]int, len(f.spots))
	for i, s := range f.spots {
		l[i] = nobody
		if at, there := f.find(s.span.Parent); there {
			l[i] = at
		}
	}
	return l
}

// cuts has the spots at which rings are cut: of each ring that of its least ID.
func cuts(named []int) []int {
	var l []int
	from := make([]int, len(named)) // from which spot each one was come to first
	for i := range from {
		from[i] = nobody
	}
	for i := range named {
		at := i
		for at != nobody && from[at] == nobody {
			from[at] = i
			at = named[at]
		}
		if at != nobody && from[at] == i { // come to from i twice: it is in a ring, and no elder way came there
			l = append(l, leastOfRing(named, at))
		}
	}
	return l
}

// leastOfRing is the spot of the least ID in the ring of a spot: that of the least number, since spots stand by rising IDs.
func leastOfRing(named []int, at int) int {
	least := at
	for next := named[at]; next != at; next = named[next] {
		least = min(least, next)
	}
	return least
}

// grow goes down from the roots, since what is told of a span hangs on the one above it, and puts all in their order.
func (f *Forest) grow() {
	f.sort(f.roots)
	f.walk(func(above *spot) bool {
		for _, at := range above.children {
			f.spots[at].hang(above.node)
		}
		f.sort(above.children)
		return true
	})
}

// root says where a spot stands with nobody above it.
func (s *spot) root() {
	switch {
	case s.node.Origin == api.Looped:
	case s.span.Parent == 0:
		s.node.Origin = api.Born
	default:
		s.node.Origin = api.Orphan
	}
	s.node.Tree = s.node.ID
	s.node.Clip = s.interval()
}

// hang says where a spot stands beneath its parent.
func (s *spot) hang(above api.Node) {
	s.node.Parent = above.ID
	s.node.Tree = above.Tree
	s.node.Depth = above.Depth + 1
	s.node.Clip = ival.Clip(s.interval(), above.Clip)
}

func (s *spot) interval() api.Interval {
	return api.Interval{From: s.span.Start, To: s.span.End}
}

// sort puts roots, or the children of a spot, in their order.
func (f *Forest) sort(spots []int) {
	slices.SortFunc(spots, func(a, b int) int {
		x, y := f.spots[a].node, f.spots[b].node
		return cmp.Or(cmp.Compare(x.Clip.From, y.Clip.From), cmp.Compare(x.ID, y.ID))
	})
}
