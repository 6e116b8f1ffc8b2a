package watch_test

import (
	"iter"
	"math"
	"slices"
	"sync"
	"testing"

	"spoor/api"
	"spoor/halt"
	"spoor/watch"
)

// pair is what a loop is told at once.
type pair struct {
	hit api.Hit
	err api.Errno
}

// oks are hits that are told, each with OK.
func oks(l ...api.Hit) []pair {
	var out []pair
	for _, hit := range l {
		out = append(out, pair{hit: hit})
	}
	return out
}

// collected is all that a loop is told, which does nothing else. It is left where something is told behind an error.
func collected(seq iter.Seq2[api.Hit, api.Errno]) []pair {
	var l []pair
	for hit, e := range seq {
		l = append(l, pair{hit, e})
		if len(l) > 1 && l[len(l)-2].err != api.OK {
			break
		}
	}
	return l
}

// told holds what a loop is told against what it must be.
func told(t *testing.T, h *watch.Hub, w int, stop *halt.Stop, want ...pair) {
	t.Helper()
	if l := collected(h.Follow(w, stop)); !slices.Equal(l, want) {
		t.Errorf("Follow(%d): %v, not %v", w, l, want)
	}
}

// fedHub has one watch of all spans, in which 1 to n wait.
func fedHub(t *testing.T, n int) *watch.Hub {
	t.Helper()
	h := watch.New()
	opened(t, h, `{}`, 100)
	feed(t, h, upTo(t, n))
	return h
}

// W4: all that wait, the eldest first; ranged over again, what waits then. No steps are spent.
func TestFollow(t *testing.T) {
	for _, stop := range []*halt.Stop{nil, made(t, 0), made(t, 1)} {
		h := fedHub(t, 3)
		seq := h.Follow(0, stop)
		for _, want := range [][]api.Hit{hits(1, 2, 3), nil, nil} {
			if l := collected(seq); !slices.Equal(l, oks(want...)) {
				t.Errorf("%v, not %v", l, want)
			}
			waits(t, h, 0, 0)
		}
		feed(t, h, of(t, 9, 2, 5))
		if l := collected(seq); !slices.Equal(l, oks(hits(5, 9)...)) {
			t.Error("ranged over again:", l)
		}
		took(t, h, 0, 9, 0)
		if stop != nil && (stop.Why() != api.OK || stop.Left() == 0) {
			t.Error("the stop:", stop.Why(), stop.Left())
		}
	}
}

// W4: nothing is told ahead of the loop, which asks what is then: a watch that is opened, fed, closed behind the call.
func TestFollowAsksLate(t *testing.T) {
	h := watch.New()
	seq, stop := h.Follow(0, nil), made(t, 0)
	other := h.Follow(0, stop)
	if l := collected(seq); !slices.Equal(l, []pair{{err: api.ErrWatchNone}}) {
		t.Error(l)
	}
	opened(t, h, `{}`, 9)
	feed(t, h, upTo(t, 2))
	waits(t, h, 0, 2)
	if l := collected(seq); !slices.Equal(l, oks(hits(1, 2)...)) {
		t.Error(l)
	}
	stop.Cancel(44)
	feed(t, h, upTo(t, 3))
	for range 2 {
		if l := collected(other); !slices.Equal(l, []pair{{err: 44}}) {
			t.Error(l)
		}
	}
	waits(t, h, 0, 1)
	h.Close(0)
	for _, s := range []iter.Seq2[api.Hit, api.Errno]{seq, other} {
		if l := collected(s); !slices.Equal(l, []pair{{err: api.ErrWatchNone}}) {
			t.Error(l)
		}
	}
}

// W4: whichever is named first: no watch, the stop, nothing that waits.
func TestFollowErrors(t *testing.T) {
	h := fedHub(t, 2)
	for _, why := range []api.Errno{api.ErrHalted, api.ErrHaltBudget, api.ErrWatchNone, api.ErrArg, -5, math.MaxInt32} {
		stop := made(t, 0)
		stop.Cancel(why)
		for _, w := range []int{1, -1, math.MaxInt, math.MinInt} {
			told(t, h, w, stop, pair{err: api.ErrWatchNone})
			told(t, h, w, nil, pair{err: api.ErrWatchNone})
		}
		told(t, h, 0, stop, pair{err: why})
		waits(t, h, 0, 2)
	}
	told(t, h, 0, nil, oks(hits(1, 2)...)...)
	stop := made(t, 0)
	told(t, h, 0, stop)
	stop.Cancel(api.ErrHalted)
	told(t, h, 0, stop, pair{err: api.ErrHalted})
}

// W4: a stop is cancelled by a budget, or by one above it, as well.
func TestFollowStops(t *testing.T) {
	h := fedHub(t, 9)
	stop := made(t, 2)
	var l []pair
	for hit, e := range h.Follow(0, stop) {
		l = append(l, pair{hit, e})
		stop.Spend(1)
	}
	if !slices.Equal(l, append(oks(hits(1, 2, 3)...), pair{err: api.ErrHaltBudget})) {
		t.Error(l)
	}
	above := made(t, 0)
	under, _ := above.Under(7)
	l = nil
	for hit, e := range h.Follow(0, under) {
		l = append(l, pair{hit, e})
		above.Cancel(5)
	}
	if !slices.Equal(l, append(oks(hits(4)...), pair{err: 5})) {
		t.Error(l)
	}
	waits(t, h, 0, 5)
}

// W4: another goroutine may cancel the stop.
func TestFollowStoppedByAnother(t *testing.T) {
	for range 200 {
		h := fedHub(t, 50)
		stop := made(t, 0)
		var hand sync.WaitGroup
		hand.Go(func() { stop.Cancel(api.ErrHalted) })
		var got []api.Hit
		var last api.Errno
		for hit, e := range h.Follow(0, stop) {
			if last != api.OK {
				t.Fatal("told behind an error")
			}
			if last = e; e == api.OK {
				got = append(got, hit)
			} else if hit != (api.Hit{}) {
				t.Fatal(hit, e)
			}
		}
		hand.Wait()
		if last != api.OK && last != api.ErrHalted || last == api.OK && len(got) != 50 {
			t.Fatal(len(got), last)
		}
		rest, _, _ := h.Take(0, 100)
		var ids []api.SpanID
		for i := range 50 {
			ids = append(ids, api.SpanID(i+1))
		}
		if !slices.Equal(append(got, rest...), hits(ids...)) {
			t.Fatal(got, rest)
		}
	}
}

// W4: a loop that is left leaves the others waiting; also one that is left at an error.
func TestFollowLeft(t *testing.T) {
	h := fedHub(t, 5)
	seq := h.Follow(0, nil)
	for n := range 5 {
		waits(t, h, 0, 5-n)
		for hit, e := range seq {
			if hit != hits(api.SpanID(n + 1))[0] || e != api.OK {
				t.Error(hit, e)
			}
			waits(t, h, 0, 4-n)
			break
		}
	}
	for range h.Follow(1, nil) {
		break
	}
	stop := made(t, 0)
	stop.Cancel(9)
	for range h.Follow(0, stop) {
		break
	}
	told(t, h, 0, nil)
}

// W4: the hit that a loop is told waits no more when it is told, whatever becomes of the loop.
func TestFollowPanics(t *testing.T) {
	h := fedHub(t, 3)
	func() {
		defer func() {
			if recover() != "mine" {
				t.Error("it is another panic")
			}
		}()
		for range h.Follow(0, nil) {
			panic("mine")
		}
	}()
	waits(t, h, 0, 2)
	told(t, h, 0, nil, oks(hits(2, 3)...)...)
}

// W4: what is fed within the loop is told, also where nothing would wait any more.
func TestFeedWithin(t *testing.T) {
	h := fedHub(t, 1)
	var l []pair
	for hit, e := range h.Follow(0, nil) {
		if l = append(l, pair{hit, e}); len(l) < 7 {
			feed(t, h, upTo(t, len(l)+1))
		}
	}
	if !slices.Equal(l, oks(hits(1, 2, 3, 4, 5, 6, 7)...)) {
		t.Error(l)
	}
}

// W4: what is told makes room; how many were lost is not touched.
func TestFollowMakesRoom(t *testing.T) {
	h := watch.New()
	opened(t, h, `{}`, 1)
	feed(t, h, upTo(t, 3))
	var l []pair
	for hit, e := range h.Follow(0, nil) {
		if l = append(l, pair{hit, e}); len(l) == 1 {
			feed(t, h, upTo(t, 5))
		}
	}
	if !slices.Equal(l, oks(hits(1, 4)...)) {
		t.Error(l)
	}
	told(t, h, 0, nil)
	took(t, h, 0, 9, 3)
	feed(t, h, upTo(t, 7))
	told(t, h, 0, nil, oks(hits(6)...)...)
	took(t, h, 0, 0, 1)
}

// W4: what the loop takes is not told.
func TestTakeWithin(t *testing.T) {
	h := fedHub(t, 6)
	var l []pair
	for hit, e := range h.Follow(0, nil) {
		l = append(l, pair{hit, e})
		took(t, h, 0, 2, 0, hits(hit.ID+1, hit.ID+2)...)
	}
	if !slices.Equal(l, oks(hits(1, 4)...)) {
		t.Error(l)
	}
}

// W4: a watch that the loop closes ends it by ErrWatchNone, ahead of the stop's reason; a new one is another one.
func TestCloseWithin(t *testing.T) {
	h := fedHub(t, 6)
	stop := made(t, 0)
	var l []pair
	for hit, e := range h.Follow(0, stop) {
		if l = append(l, pair{hit, e}); len(l) == 2 {
			if h.Close(0) != api.OK || opened(t, h, `{}`, 9) != 1 {
				t.Error("Close, Open")
			}
			feed(t, h, upTo(t, 9))
			stop.Cancel(3)
		}
	}
	if !slices.Equal(l, append(oks(hits(1, 2)...), pair{err: api.ErrWatchNone})) {
		t.Error(l)
	}
	waits(t, h, 1, 9)
}

// W4: a loop goes on where others among the watches are opened and closed.
func TestOthersCloseWithin(t *testing.T) {
	h := watch.New()
	for range 3 {
		opened(t, h, `{}`, 9)
	}
	feed(t, h, upTo(t, 4))
	var l []pair
	for hit, e := range h.Follow(1, nil) {
		switch l = append(l, pair{hit, e}); len(l) {
		case 1:
			h.Close(0)
		case 2:
			h.Close(2)
			opened(t, h, `{}`, 9)
		}
	}
	if !slices.Equal(l, oks(hits(1, 2, 3, 4)...)) {
		t.Error(l)
	}
	none(t, h, 0)
	none(t, h, 2)
	waits(t, h, 3, 0)
}

// W4: it may be ranged over within its own loop, and beside others of the same watch; none is told twice.
func TestFollowWithin(t *testing.T) {
	h := fedHub(t, 7)
	seq, other := h.Follow(0, nil), h.Follow(0, made(t, 0))
	var outer, inner []pair
	for hit, e := range seq {
		outer = append(outer, pair{hit, e})
		for _, s := range []iter.Seq2[api.Hit, api.Errno]{seq, other} {
			for hit, e := range s {
				inner = append(inner, pair{hit, e})
				break
			}
		}
	}
	if !slices.Equal(outer, oks(hits(1, 4, 7)...)) || !slices.Equal(inner, oks(hits(2, 3, 5, 6)...)) {
		t.Error(outer, inner)
	}

	feed(t, h, upTo(t, 12))
	outer = nil
	for hit, e := range seq {
		outer = append(outer, pair{hit, e})
		if l := collected(seq); !slices.Equal(l, oks(hits(9, 10, 11, 12)...)) {
			t.Error(l)
		}
	}
	if !slices.Equal(outer, oks(hits(8)...)) {
		t.Error(outer)
	}
}

// W4: pulled one by one it tells the same: it looks at nothing ahead of its time.
func TestFollowPulled(t *testing.T) {
	h := fedHub(t, 2)
	stop := made(t, 0)
	next, end := iter.Pull2(h.Follow(0, stop))
	defer end()
	for i, want := range oks(hits(1, 2, 3)...) {
		hit, e, more := next()
		if (pair{hit, e}) != want || !more {
			t.Error(hit, e, more)
		}
		waits(t, h, 0, max(0, 1-i))
		if i == 1 {
			feed(t, h, upTo(t, 3))
		}
	}
	stop.Cancel(66)
	if hit, e, more := next(); hit != (api.Hit{}) || e != 66 || !more {
		t.Error(hit, e, more)
	}
	if _, _, more := next(); more {
		t.Error("more behind the reason")
	}
}

// W4: each watch has its own hits; loops of several go on beside one another.
func TestFollowSeveral(t *testing.T) {
	h := fedHub(t, 0)
	opened(t, h, `{} | top 2 by start`, 9)
	feed(t, h, upTo(t, 3))
	var l []pair
	for hit, e := range h.Follow(0, nil) {
		l = append(l, pair{hit, e})
		for hit, e := range h.Follow(1, nil) {
			l = append(l, pair{hit, e})
			break
		}
	}
	if !slices.Equal(l, oks(hits(1, 1, 2, 2, 3)...)) {
		t.Error(l)
	}
}
