package watch_test

import (
	"math/rand/v2"
	"slices"
	"testing"

	"spoor/api"
	"spoor/forest"
	"spoor/match"
	"spoor/watch"
)

// meal is a Feed.
type meal struct {
	name api.TraceID
	f    *forest.Forest
}

// meals are Feeds of a few traces, as they change.
func meals(t *testing.T, r *rand.Rand, n int) []meal {
	g := &rig{t: t, r: r}
	l := make([]meal, n)
	for i := range l {
		l[i].name, l[i].f = g.drawn()
	}
	return l
}

const someFailed = `{status = failed} || {depth = 1}`

// news are the hits of a query, each where it is found first.
func news(t *testing.T, q api.Query, l []meal) []api.Hit {
	t.Helper()
	var all []api.Hit
	for _, m := range l {
		ids, e := match.Find(q, m.f)
		if e != api.OK {
			t.Fatal(e)
		}
		for _, id := range ids {
			if hit := (api.Hit{Trace: m.name, ID: id}); !slices.Contains(all, hit) {
				all = append(all, hit)
			}
		}
	}
	return all
}

// some lets go of some hits of a watch, by Take or by a Follow that is left.
func some(t *testing.T, r *rand.Rand, h *watch.Hub, w int) (l []api.Hit, lost int) {
	t.Helper()
	most := r.IntN(4)
	if r.IntN(2) == 0 {
		l, lost, e := h.Take(w, most)
		if e != api.OK {
			t.Fatal(e)
		}
		return l, lost
	}
	if most == 0 {
		return nil, 0
	}
	for hit, e := range h.Follow(w, nil) {
		if e != api.OK {
			t.Fatal(e)
		}
		if l = append(l, hit); len(l) == most {
			break
		}
	}
	return l, 0
}

// P22.1: of Take and Follow together each hit is told once at most; what was found is told, waits, or was lost. P22.2: they are told in the order in which they were found.
func TestOnceAndInOrder(t *testing.T) {
	r := rand.New(rand.NewPCG(22, 2))
	for range 300 {
		h, q, l := watch.New(), read(t, someFailed), meals(t, r, 40)
		w, e := h.Open(q, 1+r.IntN(6))
		if e != api.OK {
			t.Fatal(e)
		}
		var all []api.Hit
		lost := 0
		for i, m := range l {
			h.Feed(m.name, m.f)
			found := news(t, q, l[:i+1])
			got, n := some(t, r, h, w)
			all, lost = append(all, got...), lost+n
			rest, _ := h.Waiting(w)
			if len(all)+rest+lost > len(found) {
				t.Fatalf("%d told, %d wait, %d lost, of %d", len(all), rest, lost, len(found))
			}
		}
		rest, n, _ := h.Take(w, 1000)
		all, lost = append(all, rest...), lost+n
		found := news(t, q, l)
		if len(all)+lost != len(found) {
			t.Fatalf("%d told, %d lost, of %d", len(all), lost, len(found))
		}
		at := -1
		for _, hit := range all {
			i := slices.Index(found, hit)
			if i <= at {
				t.Fatalf("%v is told at the wrong place: %v of %v", hit, all, found)
			}
			at = i
		}
	}
}

// P22.3: a watch tells the same alone and among others, which come and go, and are taken from.
func TestOthersDoNotMatter(t *testing.T) {
	r := rand.New(rand.NewPCG(22, 3))
	for round := range 200 {
		q, room, l := read(t, someFailed), 1+r.IntN(5), meals(t, r, 40)
		from := r.IntN(20)
		alone, among := watch.New(), watch.New()
		var w int
		for i, m := range l {
			if i == from {
				if _, e := alone.Open(q, room); e != api.OK {
					t.Fatal(e)
				}
				w, _ = among.Open(q, room)
			}
			if r.IntN(3) == 0 && len(watches(among)) < 15 {
				opened(t, among, []string{`{}`, someFailed}[r.IntN(2)], 1+r.IntN(9))
			}
			for _, other := range watches(among) {
				if i < from || other != w {
					some(t, r, among, other)
					if r.IntN(10) == 0 {
						among.Close(other)
					}
				}
			}
			among.Feed(m.name, m.f)
			if i < from {
				continue
			}
			alone.Feed(m.name, m.f)
			seed := r.Uint64()
			a, lostA := some(t, rand.New(rand.NewPCG(seed, 0)), alone, 0)
			b, lostB := some(t, rand.New(rand.NewPCG(seed, 0)), among, w)
			if !slices.Equal(a, b) || lostA != lostB {
				t.Fatalf("%d: alone %v, lost %d; among others %v, lost %d", round, a, lostA, b, lostB)
			}
		}
	}
}

// P22.4: with room for all, the hits are those that match.Find told of one of the forests.
func TestWithRoomForAll(t *testing.T) {
	r := rand.New(rand.NewPCG(22, 4))
	for _, s := range []string{`{}`, someFailed, `{} > {}`, `{} | top 1 by dur`, `{status = fine} | count >= 2`} {
		for range 40 {
			h, l := watch.New(), meals(t, r, 30)
			w := opened(t, h, s, api.MaxRoom)
			for _, m := range l {
				h.Feed(m.name, m.f)
			}
			took(t, h, w, 1000, 0, news(t, read(t, s), l)...)
		}
	}
}
