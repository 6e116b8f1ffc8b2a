package watch_test

import (
	"reflect"
	"runtime"
	"slices"
	"testing"
	"weak"

	"spoor/api"
	"spoor/forest"
	"spoor/watch"
)

const full = `({service = "a" and not .rows != 7}) || {kind = internal or (leaf = true or self < 3s)} && {} | count >= 2 | top 2 by start`

// spoilt writes into all lists of a tree, the innermost first.
func spoilt(l []api.Expr) {
	for i := range l {
		spoilt(l[i].Args)
		l[i] = api.Expr{Op: 99, Field: "x", Value: api.Value{Text: "y"}}
	}
}

// W1: the query is copied: whoever handed it in may write into its lists.
func TestQueryIsCopied(t *testing.T) {
	h := watch.New()
	q := read(t, full)
	if w, e := h.Open(q, 9); w != 0 || e != api.OK {
		t.Fatal(w, e)
	}
	spoilt(q.Set.Args)
	for i := range q.Stages {
		q.Stages[i] = api.Stage{Name: "count", Op: api.OpLt}
	}
	feed(t, h, upTo(t, 3))
	took(t, h, 0, 9, 0, hits(1, 2)...)

	q = read(t, `{service = "a"}`)
	h.Open(q, 9)
	q.Set.Args[0].Value.Text = "b"
	h.Open(q, 9)
	feed(t, h, built(t, one(seven, 5), with(one(seven, 6), func(s *api.Span) { s.Service = "b" })))
	took(t, h, 1, 9, 0, hits(5)...)
	took(t, h, 2, 9, 0, hits(6)...)
}

// roomy is a list of expressions with room behind it, in which something stands, as behind all lists in it.
func roomy(l []api.Expr) []api.Expr {
	room := append(slices.Clone(l), api.Expr{Op: 77}, api.Expr{Op: 78, Field: "z"})
	for i := range l {
		room[i].Args = roomy(room[i].Args)
	}
	return room[:len(l)]
}

// whole is a list of expressions with its spare room, as behind all lists in it, in new memory.
func whole(l []api.Expr) []api.Expr {
	room := slices.Clone(l[:cap(l)])
	for i := range room {
		room[i].Args = whole(room[i].Args)
	}
	return room
}

// P3: neither a query nor a forest is written into, nor a list's spare room.
func TestNothingIsWrittenInto(t *testing.T) {
	h := watch.New()
	q := read(t, full)
	q.Set.Args = roomy(q.Set.Args)
	q.Stages = append(q.Stages, api.Stage{Name: "x"}, api.Stage{Name: "y"})[:len(q.Stages)]
	tree, stages := whole(q.Set.Args), slices.Clone(q.Stages[:cap(q.Stages)])
	f := of(t, 3, 1, 2)
	ids, down := f.IDs(), slices.Collect(f.Down())
	for range 3 {
		if _, e := h.Open(q, 9); e != api.OK {
			t.Fatal(e)
		}
		feed(t, h, f)
		if !reflect.DeepEqual(whole(q.Set.Args), tree) || !slices.Equal(q.Stages[:cap(q.Stages)], stages) {
			t.Fatal("the query was written into")
		}
		if !slices.Equal(f.IDs(), ids) || !slices.Equal(slices.Collect(f.Down()), down) {
			t.Fatal("the forest has changed")
		}
	}
}

// P3: what Take answers is the caller's, with its spare room: nothing that is written there is seen again, and it stays as it is.
func TestAnswersAreNew(t *testing.T) {
	for n := range 40 {
		h := watch.New()
		opened(t, h, `{}`, 100)
		feed(t, h, upTo(t, 40))
		first, _, _ := h.Take(0, n)
		was := slices.Clone(first)
		feed(t, h, upTo(t, 60))
		second, _, _ := h.Take(0, 3)
		for i := range second[:cap(second)] {
			second[:cap(second)][i] = api.Hit{ID: 99}
		}
		if !slices.Equal(first, was) || len(was) != n {
			t.Fatal("an answer has changed")
		}
		for i := range first[:cap(first)] {
			first[:cap(first)][i] = api.Hit{ID: 98}
		}
		feed(t, h, upTo(t, 70))
		rest, _, _ := h.Take(0, 100)
		for i, hit := range rest {
			if hit != hits(api.SpanID(n + 4 + i))[0] {
				t.Fatalf("what waits was written into: %v", rest)
			}
		}
		if n+3+len(rest) != 70 {
			t.Fatal(n, len(rest))
		}
	}
}

// W2: a forest is looked at during the call alone. W1: what is closed is let go.
func TestNothingIsKept(t *testing.T) {
	h := watch.New()
	var forests []weak.Pointer[forest.Forest]
	for i := range 50 {
		w := opened(t, h, `{}`, 1000)
		f := upTo(t, i+1)
		forests = append(forests, weak.Make(f))
		feed(t, h, f)
		if i%2 == 0 {
			h.Close(w)
		} else {
			for range h.Follow(w, nil) {
			}
			h.Close(w)
		}
	}
	runtime.GC()
	runtime.GC()
	kept := 0
	for _, p := range forests {
		if p.Value() != nil {
			kept++
		}
	}
	if kept > 3 {
		t.Errorf("%d forests are kept", kept)
	}
	runtime.KeepAlive(h)
}

// P4: hubs are used by several hands at a time, each by one.
func TestHubsBesideOneAnother(t *testing.T) {
	f := upTo(t, 30)
	q := read(t, full)
	done := make(chan []api.Hit)
	for range 8 {
		go func() {
			h := watch.New()
			h.Open(q, 9)
			for range 50 {
				h.Feed(seven, f)
			}
			l, _, _ := h.Take(0, 9)
			done <- l
		}()
	}
	for range 8 {
		if l := <-done; !slices.Equal(l, hits(1, 2)) {
			t.Error(l)
		}
	}
}
