package sample_test

import (
	"fmt"
	"slices"
	"testing"

	"spoor/api"
	"spoor/sample"
)

// rich is a span with all lists.
func rich(id api.SpanID) api.Span {
	s := one(id, int64(id), int64(id)+9)
	s.Links = []api.SpanID{50, 60, 70}
	s.Attrs = []api.Attr{{Key: "a", Value: api.Value{Text: "x"}}, {Key: "b", Value: api.Value{Kind: api.Int, Int: 4}}}
	s.Events = []api.Event{{At: 1, Name: "e"}, {At: 2, Name: "f"}}
	return s
}

// TestNothingIsWrittenInto: neither lists nor their spare room, in whatever order the spans stand.
func TestNothingIsWrittenInto(t *testing.T) {
	l := policies(part(3), slow(5), service("b"), failed(), all(), part(9), slow(1))
	s := spans(rich(9), rich(3), rich(7), rich(1), one(99, 5, 6))
	was := fmt.Sprintf("%+v %+v", l, s)
	for n := range len(l) {
		sample.Check(l[:n])
		for m := range len(s) {
			decided, e := sample.Decide(l[:n], s[:m])
			if e != api.OK {
				t.Fatal(e)
			}
			if again, _ := sample.Decide(l[:n], s[:m]); again != decided {
				t.Error("asked again:", again, decided)
			}
		}
	}
	sample.Decide(l, append(s[:4:5], rich(9)))
	if got := fmt.Sprintf("%+v %+v", l, append(s[:4:4], one(99, 5, 6))); got != was {
		t.Errorf("%s, not %s", got, was)
	}
}

// scribbled writes into a list and its spare room.
func scribbled(l []api.TraceID) {
	l = l[:cap(l)]
	for i := range l {
		l[i] = api.TraceID{Hi: 1 << 60, Lo: 99}
	}
}

// TestTracesAreNewMemory: what was told stays, and whoever writes into it changes nothing.
func TestTracesAreNewMemory(t *testing.T) {
	for n := 1; n < 40; n++ {
		f := few(t, 20)
		p := newPlain(20)
		for i := range n {
			f.Put(api.TraceID{Lo: uint64(i)})
			p.set[api.TraceID{Lo: uint64(i)}] = 1
		}
		a, b := f.Traces(), f.Traces()
		was := slices.Clone(a)
		scribbled(b)
		if !slices.Equal(a, was) {
			t.Fatal("two answers share memory")
		}
		same(t, n, f, p)
		for i := range 30 {
			f.Put(mixed(uint64(i), 3))
		}
		if !slices.Equal(a, was) {
			t.Fatal("an answer changed")
		}
	}
}

// TestMergedAreApart: each of two goes its own way behind a Merge.
func TestMergedAreApart(t *testing.T) {
	for n := range 12 {
		f, o := few(t, 10), few(t, 10)
		p, q := newPlain(10), newPlain(10)
		for i := range n {
			name := mixed(uint64(100+i), 7)
			o.Put(name)
			p.set[name], q.set[name] = 1, 1
		}
		if f.Merge(o) != api.OK {
			t.Fatal("merge")
		}
		for i := range 15 {
			a, b := mixed(uint64(50-i), 1), mixed(uint64(90-i), 2)
			f.Put(a)
			o.Put(b)
			p.set[a], q.set[b] = 1, 1
			same(t, "f", f, p)
			same(t, "o", o, q)
		}
	}
}
