package engine_test

import (
	"cmp"
	"fmt"
	"math/rand/v2"
	"slices"
	"testing"

	"spoor/api"
	"spoor/disk"
	"spoor/match"
)

// plainWatch is a watch by the chapter's words.
type plainWatch struct {
	q       api.Query
	room    int
	found   []api.Hit
	waiting []api.Hit
	lost    int
	told    []api.Hit
}

// feed looks at each trace of a batch, rising.
func (w *plainWatch) feed(p plain, l []api.Span) {
	for _, t := range p.traces() {
		if !slices.ContainsFunc(l, func(s api.Span) bool { return s.Trace == t }) {
			continue
		}
		ids, _ := match.Find(w.q, p.forest(t))
		for _, id := range ids {
			hit := api.Hit{Trace: t, ID: id}
			switch {
			case slices.Contains(w.found, hit):
				continue
			case len(w.waiting) < w.room:
				w.waiting = append(w.waiting, hit)
			default:
				w.lost++
			}
			w.found = append(w.found, hit)
		}
	}
}

func (w *plainWatch) take(most int) ([]api.Hit, int) {
	n := min(most, len(w.waiting))
	l, lost := w.waiting[:n], w.lost
	w.waiting, w.lost = w.waiting[n:], 0
	w.told = append(w.told, l...)
	return l, lost
}

// P23.7: a watch tells each span that its query finds behind some batch once, in the order in which they were found, but for those that had no room.
func TestWatches(t *testing.T) {
	all := sound()
	for seed := range uint64(40) {
		r := rand.New(rand.NewPCG(237, seed))
		d := disk.New()
		e, p := opened(t, d, small), plain{}
		open := map[int]*plainWatch{}
		next := 0
		for step := range 60 {
			what := fmt.Sprint("seed ", seed, ", step ", step)
			switch w := r.IntN(next + 1); r.IntN(8) {
			case 0:
				q, room := all[r.IntN(len(all))], 1+r.IntN(9)
				got, n := e.Watch(q, room)
				if len(open) == 16 {
					if got != 0 || n != api.ErrWatchMany {
						t.Fatal(what, got, n)
					}
					break
				}
				if got != next || n != api.OK {
					t.Fatal(what, got, n)
				}
				open[next] = &plainWatch{q: q, room: room}
				next++
			case 1:
				n := e.Unwatch(w)
				if open[w] == nil != (n == api.ErrWatchNone) || open[w] != nil && n != api.OK {
					t.Fatal(what, n)
				}
				delete(open, w)
			case 2, 3:
				most := r.IntN(5)
				if open[w] == nil {
					if l, lost, n := e.Take(w, most); len(l) > 0 || lost != 0 || n != api.ErrWatchNone {
						t.Fatal(what, l, lost, n)
					}
					break
				}
				l, lost := open[w].take(most)
				took(t, e, w, most, lost, l...)
			case 4:
				if e.Flush() != api.OK || e.Checkpoint() != api.OK {
					t.Fatal(what)
				}
			case 5:
				p.holds(t, what, e.Ask, 2, few(r, 3))
				e.Ingest([]byte("junk"))
			default:
				l := someSpans(r, r.IntN(6))
				takes(t, e, l...)
				p.put(l...)
				for _, w := range open {
					w.feed(p, l)
				}
			}
		}
		for w, one := range open {
			l, lost := one.take(1000)
			took(t, e, w, 1000, lost, l...)
			slices.SortFunc(one.told, func(a, b api.Hit) int { return cmp.Or(order(a.Trace, b.Trace), cmp.Compare(a.ID, b.ID)) })
			if len(slices.Compact(one.told)) != len(one.told) {
				t.Fatal("told twice:", one.told)
			}
		}
	}
}

func hit(trace uint64, id api.SpanID) api.Hit { return api.Hit{Trace: lo(trace), ID: id} }

// E6: a trace is fed behind each batch that was taken and has a span of it, also if nothing of it has changed; no other one is.
func TestFedTraces(t *testing.T) {
	e := opened(t, disk.New(), small)
	a, b, c := one(3, 1, 0, "a", 0, 9), one(3, 2, 1, "b", 0, 9), one(2, 1, 0, "a", 0, 9)
	takes(t, e, a, b, c)
	w, n := e.Watch(parsed(t, `{}`), 100)
	ok(t, "Watch", n)
	took(t, e, w, 9, 0)
	takes(t, e)
	takes(t, e, one(4, 1, 0, "a", 0, 9))
	took(t, e, w, 9, 0, hit(4, 1))
	takes(t, e, b) // kept: the whole trace is told all the same
	took(t, e, w, 9, 0, hit(3, 1), hit(3, 2))
	takes(t, e, b, c)
	took(t, e, w, 9, 0, hit(2, 1))
	takes(t, e, a, b, c)
	took(t, e, w, 9, 0)
}

// By batches, then by rising traces, then by IDs, however the spans stand in a batch.
func TestOrderOfHits(t *testing.T) {
	e := opened(t, disk.New(), small)
	e.Watch(parsed(t, `{}`), 100)
	s := one(1, 4, 0, "a", 0, 9)
	s.Trace = api.TraceID{Hi: 1}
	takes(t, e, one(9, 9, 0, "a", 0, 9))
	takes(t, e, s, one(5, 2, 0, "a", 0, 9), one(7, 1, 0, "a", 0, 9), one(5, 1, 0, "a", 0, 9))
	takes(t, e, one(1, 1, 0, "a", 0, 9), one(5, 3, 0, "a", 0, 9))
	want := []api.Hit{hit(9, 9), hit(5, 1), hit(5, 2), hit(7, 1), {Trace: s.Trace, ID: 4}, hit(1, 1), hit(5, 3)}
	for _, h := range want {
		took(t, e, 0, 1, 0, h)
	}
	took(t, e, 0, 1, 0)
}

// What is found hangs on the trace as it is behind the whole batch: what is there in between is not seen.
func TestHitsOfTheWholeBatch(t *testing.T) {
	e := opened(t, disk.New(), small)
	e.Watch(parsed(t, `{leaf = true}`), 100)
	e.Watch(parsed(t, `{dur < 5}`), 100)
	takes(t, e, one(1, 1, 0, "a", 0, 4), one(1, 2, 1, "a", 0, 4), one(1, 2, 1, "a", 0, 9))
	took(t, e, 0, 9, 0, hit(1, 2))
	took(t, e, 1, 9, 0, hit(1, 1))
	takes(t, e, one(1, 3, 2, "a", 0, 9)) // 2 is no leaf any more: it was told, and stays so
	took(t, e, 0, 9, 0, hit(1, 3))
	took(t, e, 1, 9, 0)
}

// Rooms: what has none is lost, and counted; it does not come again.
func TestLostHits(t *testing.T) {
	e := opened(t, disk.New(), small)
	e.Watch(parsed(t, `{}`), 2)
	takes(t, e, row(1, 1, 5)...)
	took(t, e, 0, 1, 3, hit(1, 1))
	took(t, e, 0, 0, 0)
	takes(t, e, row(1, 1, 7)...)
	took(t, e, 0, 9, 1, hit(1, 2), hit(1, 6))
	takes(t, e, row(1, 1, 7)...)
	took(t, e, 0, 9, 0)
}

// The errors of watches, the one that is named first; those of a sick engine are the same.
func TestWatchErrors(t *testing.T) {
	for _, sick := range []bool{false, true} {
		d := disk.New()
		e := opened(t, d, small)
		if sick {
			d.Arm(1, api.Fail, 0)
			e.Flush()
		}
		q := parsed(t, `{}`)
		for _, x := range []struct {
			q    api.Query
			room int
			want api.Errno
		}{{api.Query{}, 0, api.ErrLangTree}, {api.Query{}, 5, api.ErrLangTree}, {q, 0, api.ErrArg}, {q, -1, api.ErrArg}, {q, 1001, api.ErrArg}} {
			if w, n := e.Watch(x.q, x.room); w != 0 || n != x.want {
				t.Error(x, w, n)
			}
		}
		for i := range 16 {
			if w, n := e.Watch(q, 1+i*66); w != i || n != api.OK {
				t.Fatal(w, n)
			}
		}
		for _, x := range []struct {
			q    api.Query
			room int
			want api.Errno
		}{{q, 1, api.ErrWatchMany}, {q, 0, api.ErrArg}, {api.Query{}, 1, api.ErrLangTree}} {
			if w, n := e.Watch(x.q, x.room); w != 0 || n != x.want {
				t.Error(x, w, n)
			}
		}
		for _, w := range []int{-1, 16, 1 << 40, -1 << 63} {
			if l, lost, n := e.Take(w, -1); len(l) > 0 || lost != 0 || n != api.ErrWatchNone || e.Unwatch(w) != api.ErrWatchNone {
				t.Error(w, n)
			}
		}
		if l, lost, n := e.Take(3, -1); len(l) > 0 || lost != 0 || n != api.ErrArg {
			t.Error(l, lost, n)
		}
		if e.Unwatch(3) != api.OK || e.Unwatch(3) != api.ErrWatchNone {
			t.Error("Unwatch")
		}
		if w, n := e.Watch(q, 1000); w != 16 || n != api.OK {
			t.Error(w, n)
		}
	}
}

// Watches that are closed and opened, with batches between: those that are open are fed, the first one behind others were closed too.
func TestWatchesComeAndGo(t *testing.T) {
	e := opened(t, disk.New(), small)
	all := parsed(t, `{}`)
	opens := func() int {
		w, n := e.Watch(all, 9)
		ok(t, "Watch", n)
		return w
	}
	first := opens()
	ok(t, "Unwatch", e.Unwatch(first))
	e.Unwatch(first)
	takes(t, e, one(1, 1, 0, "a", 0, 9))
	second, third := opens(), opens()
	ok(t, "Unwatch", e.Unwatch(second))
	takes(t, e, one(1, 2, 0, "a", 0, 9))
	took(t, e, third, 9, 0, hit(1, 1), hit(1, 2))
	e.Watch(api.Query{}, 9)
	ok(t, "Unwatch", e.Unwatch(third))
	takes(t, e, one(1, 3, 0, "a", 0, 9))
	last := opens()
	takes(t, e, one(1, 4, 0, "a", 0, 9))
	took(t, e, last, 9, 0, hit(1, 1), hit(1, 2), hit(1, 3), hit(1, 4))
}

// A batch whose write failed feeds nothing, though it may be there when the engine is opened anew.
func TestFailedBatchFeedsNothing(t *testing.T) {
	d := disk.New()
	e := opened(t, d, small)
	e.Watch(parsed(t, `{}`), 9)
	d.Arm(1, api.Fail, 1000)
	b := coded(t, one(1, 1, 0, "a", 0, 9))
	if _, err := e.Ingest(b); number(err) != api.ErrDiskFail {
		t.Fatal(err)
	}
	took(t, e, 0, 9, 0)
	says(t, e, "the sick one", laid(11), laid(0, 0, 0, 0, 0))
	says(t, opened(t, d, small), "the next one", laid(11), laid(0, 1, 1, 0, 0))
}
