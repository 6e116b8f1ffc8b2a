package halt

// row keeps things in the order in which they came. Those that are over stay till they are the greater part, since to throw out each by itself would cost a walk along the row.
type row[T interface{ over() bool }] struct {
	things []T
	gone   int
}

func (r *row[T]) add(thing T) { r.things = append(r.things, thing) }

// lose is called once for each of its things that is over.
func (r *row[T]) lose() {
	r.gone++
	if 2*r.gone <= len(r.things) {
		return
	}
	kept := make([]T, 0, len(r.things)-r.gone)
	for _, thing := range r.things {
		if !thing.over() {
			kept = append(kept, thing)
		}
	}
	r.things, r.gone = kept, 0
}
