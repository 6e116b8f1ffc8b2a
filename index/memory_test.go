package index_test

import (
	"reflect"
	"slices"
	"testing"

	"spoor/api"
	"spoor/index"
	"spoor/span"
)

// roomy is a tree whose lists have room behind them, in which something stands.
func roomy(e api.Expr) api.Expr {
	room := append(slices.Clone(e.Args), all(), api.Expr{Op: 77, Field: "x"})
	for i := range e.Args {
		room[i] = roomy(room[i])
	}
	e.Args = room[:len(e.Args)]
	return e
}

// copied is a tree in new memory, with all of its lists' spare room.
func copied(e api.Expr) api.Expr {
	room := slices.Clone(e.Args[:cap(e.Args)])
	for i := range room {
		room[i] = copied(room[i])
	}
	e.Args = room[:len(e.Args)]
	return e
}

// sameRoom: are trees the same, with their spare room?
func sameRoom(a, b api.Expr) bool {
	n := cap(a.Args)
	return a.Op == b.Op && a.Field == b.Field && a.Value == b.Value && len(a.Args) == len(b.Args) && n <= cap(b.Args) && slices.EqualFunc(a.Args[:n], b.Args[:n], sameRoom)
}

// P3: what is handed in is not written into, nor its spare room.
func TestArgumentsStay(t *testing.T) {
	q := read(t, `{service = "a" and (op = "b" or op = "b")} > {kind = client} && ({.n = -5} || {.n = -5 and .t = "x"}) | count > 0`)
	q.Set = roomy(q.Set)
	q.Stages = append(q.Stages, api.Stage{Name: "x"}, api.Stage{Name: "y"})[:len(q.Stages)]
	tree, stages := copied(q.Set), slices.Clone(q.Stages[:cap(q.Stages)])
	s := example(lo(1))
	s.Attrs = append(s.Attrs, api.Attr{Key: "zz", Value: text("room")})[:len(s.Attrs)]
	attrs := slices.Clone(s.Attrs[:cap(s.Attrs)])
	l := append(make([]api.Span, 0, 4), s, plain(lo(1), 7, "c", "d"), api.Span{Service: "room"}, api.Span{})[:2]
	whole := slices.Clone(l[:cap(l)])
	x := index.New()
	for range 2 {
		index.Terms(s)
		set(t, x, lo(1), l...)
		x.Traces(term("service", "a"))
		if len(planned(t, q)) != 4 || len(candidates(t, x, q)) != 1 {
			t.Fatal(planned(t, q), candidates(t, x, q))
		}
		if !sameRoom(tree, q.Set) || !slices.Equal(q.Stages[:cap(q.Stages)], stages) {
			t.Fatalf("the query was written into: %+v", q)
		}
		if !slices.Equal(s.Attrs[:cap(s.Attrs)], attrs) || !slices.EqualFunc(l[:cap(l)], whole, span.Equal) {
			t.Fatalf("the spans were written into: %+v", l[:cap(l)])
		}
	}
}

// Nothing that was handed in is kept: written into afterwards, it changes nothing.
func TestNothingIsKept(t *testing.T) {
	x := index.New()
	l := []api.Span{example(lo(1)), plain(lo(1), 7, "c", "d")}
	set(t, x, lo(1), l...)
	l[0].Attrs[0] = api.Attr{Key: "m", Value: number(9)}
	l[0].Service, l[1].Op, l[1].Trace = "q", "q", lo(2)
	for _, tm := range terms(".n", "-5", "service", "a", "service", "c", "op", "d") {
		has(t, x, tm, lo(1))
	}
	for _, tm := range terms(".m", "9", "service", "q", "op", "q") {
		has(t, x, tm)
	}
	set(t, x, lo(1))
	for _, tm := range terms(".n", "-5", "service", "a", "service", "c", "op", "d") {
		has(t, x, tm)
	}
	q := read(t, `{service = "a"} > {op = "b"}`)
	first := planned(t, q)
	q.Set.Args[0].Args[0].Value.Text = "z"
	if !slices.Equal(first, terms("op", "b", "service", "a")) || !slices.Equal(planned(t, q), terms("op", "b", "service", "z")) {
		t.Error(first, planned(t, q))
	}
}

// P3: answers are the caller's, with their spare room: nothing that is written into one is seen in another.
func TestAnswersAreNew(t *testing.T) {
	x := three(t)
	s, q, every, a := example(lo(1)), read(t, `{service = "a" and op = "x"}`), read(t, `{}`), term("service", "a")
	answers := func() []any {
		return []any{index.Terms(s), planned(t, q), x.Traces(a), candidates(t, x, q), candidates(t, x, every)}
	}
	first, want := answers(), answers()
	for _, y := range answers() {
		switch l := y.(type) {
		case []api.Term:
			l = l[:cap(l)]
			for i := range l {
				l[i] = term("spoilt", "spoilt")
			}
		case []api.TraceID:
			l = l[:cap(l)]
			for i := range l {
				l[i] = lo(77)
			}
		}
	}
	if !reflect.DeepEqual(first, want) || !reflect.DeepEqual(answers(), want) {
		t.Error(first, answers())
	}
}

// P4: what is told does not hang on the order of a map: asked over and over it is the same.
func TestAlwaysTheSame(t *testing.T) {
	x := index.New()
	var want []api.TraceID
	for i := range uint64(50) {
		trace := api.TraceID{Hi: i / 7, Lo: 1 + i%7}
		want = append(want, trace)
		set(t, x, trace, example(trace))
	}
	q := read(t, `{service = "a" and op = "b" and kind = client and status = unset and .n = -5 and .t = "x" and .z = true}`)
	for range 20 {
		if l := planned(t, q); !slices.Equal(l, index.Terms(example(lo(1)))) {
			t.Fatal(l)
		}
		if l := candidates(t, x, q); !slices.Equal(l, want) {
			t.Fatal(l)
		}
		if l := x.Traces(term(".t", `"x`)); !slices.Equal(l, want) {
			t.Fatal(l)
		}
	}
}
