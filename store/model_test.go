package store_test

import (
	"cmp"
	"maps"
	"math/rand/v2"
	"slices"
	"testing"

	"spoor/api"
	"spoor/span"
	"spoor/store"
)

type name struct {
	trace api.TraceID
	id    api.SpanID
}

// set is a plain set of spans: of each name the rank of its telling (see ranks).
type set map[name]int

// coming is a span that is to come: the telling of that rank.
type coming struct {
	name
	rank int
}

func (c coming) span() api.Span { return ranks(c.trace, c.id)[c.rank] }

func spans(l []coming) []api.Span {
	var out []api.Span
	for _, c := range l {
		out = append(out, c.span())
	}
	return out
}

// put does as the chapter says of one span.
func (m set) put(c coming) api.Change {
	rank, there := m[c.name]
	switch {
	case !there:
		m[c.name] = c.rank
		return api.Fresh
	case rank < c.rank:
		m[c.name] = c.rank
		return api.Better
	}
	return api.Kept
}

// fits puts all of a list into a copy, and counts what is there.
func (m set) fits(l []coming) api.Errno {
	after := maps.Clone(m)
	for _, c := range l {
		after.put(c)
	}
	lengths := map[api.TraceID]int{}
	for n := range after {
		if lengths[n.trace]++; lengths[n.trace] > api.MaxTrace {
			return api.ErrStoreTrace
		}
	}
	if len(after) > api.MaxSpans {
		return api.ErrStoreFull
	}
	return api.OK
}

func (m set) putAll(l []coming) ([]api.Change, api.Errno) {
	if e := m.fits(l); e != api.OK {
		return nil, e
	}
	var became []api.Change
	for _, c := range l {
		became = append(became, m.put(c))
	}
	return became, api.OK
}

func (m set) list() []coming {
	var l []coming
	for n, rank := range m {
		l = append(l, coming{n, rank})
	}
	slices.SortFunc(l, func(a, b coming) int {
		return cmp.Or(cmp.Compare(a.trace.Hi, b.trace.Hi), cmp.Compare(a.trace.Lo, b.trace.Lo), cmp.Compare(a.id, b.id))
	})
	return l
}

// drawn has some spans of a few names.
func drawn(r *rand.Rand, most int) []coming {
	var l []coming
	for range r.IntN(most + 1) {
		l = append(l, coming{name{api.TraceID{Hi: r.Uint64N(2), Lo: 1 + r.Uint64N(3)}, api.SpanID(1 + r.Uint64N(4))}, r.IntN(12)})
	}
	return l
}

// ranks rise, as the model takes it.
func TestRanksRise(t *testing.T) {
	l := ranks(lo(1), 2)
	for i := range l {
		if e := span.Check(l[i]); e != api.OK {
			t.Fatal(i, e)
		}
		for j := range i {
			if span.Compare(l[j], l[i]) != -1 {
				t.Errorf("%d is not below %d", j, i)
			}
		}
	}
}

// P9.1, P9.5: two stores go through rows of calls as plain sets do.
func TestModel(t *testing.T) {
	r := rand.New(rand.NewPCG(9, 1))
	for range 300 {
		stores := [2]*store.Store{store.New(), store.New()}
		sets := [2]set{{}, {}}
		for range 20 {
			i := r.IntN(2)
			s, m := stores[i], sets[i]
			switch r.IntN(4) {
			case 0:
				if e := s.Merge(stores[1-i]); e != api.OK {
					t.Fatal(e)
				}
				m.putAll(sets[1-i].list())
			case 1:
				if e := s.Merge(s); e != api.OK {
					t.Fatal(e)
				}
			default:
				l := drawn(r, 6)
				count := s.Count()
				want, _ := m.putAll(l)
				puts(t, s, spans(l), want...)
				fresh := len(slices.DeleteFunc(slices.Clone(want), func(c api.Change) bool { return c != api.Fresh }))
				if s.Count() != count+fresh {
					t.Fatal(s.Count(), count, want)
				}
				if again, e := s.Put(spans(l)); e != api.OK || !slices.Equal(again, slices.Repeat([]api.Change{api.Kept}, len(l))) {
					t.Fatal(again, e)
				}
			}
			for k := range 2 {
				has(t, "a row", stores[k], spans(sets[k].list()))
			}
		}
	}
}

// P9.4: near the ends of the room what is refused is refused as a plain set does, and changes nothing.
func TestModelNearTheEnds(t *testing.T) {
	r := rand.New(rand.NewPCG(9, 2))
	for range 40 {
		s, m := store.New(), set{}
		var first []coming
		for id := range api.SpanID(990) {
			first = append(first, coming{name{lo(1), id + 1}, r.IntN(12)})
		}
		m.putAll(first)
		if _, e := s.Put(spans(first)); e != api.OK {
			t.Fatal(e)
		}
		for range 8 {
			var l []coming
			for range r.IntN(12) {
				l = append(l, coming{name{lo(1 + r.Uint64N(2)), api.SpanID(980 + r.Uint64N(30))}, r.IntN(12)})
			}
			want, e := m.putAll(l)
			if f := s.Fits(spans(l)); f != e {
				t.Fatal(f, e)
			}
			if got, f := s.Put(spans(l)); f != e || !slices.Equal(got, want) {
				t.Fatal(got, f, want, e)
			}
		}
		has(t, "near the ends", s, spans(m.list()))
	}
}

// P9.2: the same spans, in any order, however often, cut into any lists, make the same store.
func TestTheSetAlone(t *testing.T) {
	r := rand.New(rand.NewPCG(9, 3))
	for range 200 {
		l := drawn(r, 30)
		m := set{}
		m.putAll(l)
		for range 5 {
			row := append(slices.Clone(l), l[:r.IntN(len(l)+1)]...)
			r.Shuffle(len(row), func(i, j int) { row[i], row[j] = row[j], row[i] })
			s := store.New()
			for len(row) > 0 {
				n := 1 + r.IntN(len(row))
				if _, e := s.Put(spans(row[:n])); e != api.OK {
					t.Fatal(e)
				}
				row = row[n:]
			}
			has(t, "the set", s, spans(m.list()))
		}
	}
}

// P9.3: stores that are merged, either way, have what one store has into which all was put; the one that is merged in stays as it is.
func TestMerged(t *testing.T) {
	r := rand.New(rand.NewPCG(9, 4))
	for range 300 {
		l, k := drawn(r, 20), drawn(r, 20)
		m, left, right := set{}, set{}, set{}
		m.putAll(l)
		m.putAll(k)
		left.putAll(l)
		right.putAll(k)
		a, b := filled(t, spans(l)), filled(t, spans(k))
		c := filled(t, spans(k))
		if e := c.Merge(a); e != api.OK {
			t.Fatal(e)
		}
		has(t, "what was merged in", a, spans(left.list()))
		if e := a.Merge(b); e != api.OK {
			t.Fatal(e)
		}
		has(t, "what was merged in", b, spans(right.list()))
		has(t, "b into a", a, spans(m.list()))
		has(t, "a into b", c, spans(m.list()))
	}
}

// A store is no part of one that it was merged into.
func TestMergedStaysApart(t *testing.T) {
	a, b := filled(t, row(lo(1), 1, 1)), filled(t, row(lo(1), 2, 2), row(lo(2), 1, 1))
	if e := a.Merge(b); e != api.OK {
		t.Fatal(e)
	}
	puts(t, b, []api.Span{one(lo(1), 2, 9), one(lo(2), 2, 5), one(lo(3), 1, 5)}, api.Better, api.Fresh, api.Fresh)
	has(t, "a", a, []api.Span{one(lo(1), 1, 5), one(lo(1), 2, 5), one(lo(2), 1, 5)})
	puts(t, a, []api.Span{one(lo(2), 1, 8), one(lo(2), 3, 5)}, api.Better, api.Fresh)
	has(t, "b", b, []api.Span{one(lo(1), 2, 9), one(lo(2), 1, 5), one(lo(2), 2, 5), one(lo(3), 1, 5)})
	if e := a.Merge(store.New()); e != api.OK || a.Count() != 4 {
		t.Error(e, a.Count())
	}
}
