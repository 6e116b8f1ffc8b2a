package engine_test

import (
	"bytes"
	"math/rand/v2"
	"reflect"
	"slices"
	"testing"

	"spoor/api"
	"spoor/disk"
)

// roomy is bytes with room behind them, in which something stands.
func roomy(b []byte) []byte {
	l := append(bytes.Clone(b), "spare room"...)
	return l[:len(b):len(l)]
}

// P3: what is handed in is not written into, nor its spare room; nor is it kept.
func TestBatchIsNotKept(t *testing.T) {
	r := rand.New(rand.NewPCG(23, 9))
	d := disk.New()
	e, p := opened(t, d, small), plain{}
	for range 20 {
		l := someSpans(r, 5)
		b := roomy(coded(t, l...))
		whole := bytes.Clone(b[:cap(b)])
		if _, err := e.Ingest(b); err != nil {
			t.Fatal(err)
		}
		if !bytes.Equal(b[:cap(b)], whole) {
			t.Fatal("a batch was written into")
		}
		p.put(l...)
		for i := range b[:cap(b)] {
			b[:cap(b)][i] = 0xff
		}
	}
	p.holds(t, "batches that were written over since", e.Ask, 2, questions())
	p.holds(t, "opened anew", opened(t, d, small).Ask, 2, questions())
}

func TestRequestIsNotWrittenInto(t *testing.T) {
	e, _ := filled(t, 10, 40)
	for _, q := range questions() {
		b := roomy(q.bytes())
		whole := bytes.Clone(b[:cap(b)])
		e.Ask(b)
		if !bytes.Equal(b[:cap(b)], whole) {
			t.Fatalf("%+v was written into", q)
		}
	}
}

// Answers are the caller's, with their spare room.
func TestAnswersAreNew(t *testing.T) {
	e, p := filled(t, 11, 60)
	e.Watch(parsed(t, `{}`), 100)
	for _, q := range questions() {
		a, b := e.Ask(q.bytes()), e.Ask(q.bytes())
		for i := range a[:cap(a)] {
			a[:cap(a)][i] = 0xff
		}
		if !bytes.Equal(b, p.answer(q, 2)) {
			t.Fatalf("%+v: two answers share memory", q)
		}
	}
	q := parsed(t, `{}`)
	want := p.hits(q)
	a, _ := e.Search(q, nil)
	b, _ := e.Search(q, nil)
	for i := range a[:cap(a)] {
		a[:cap(a)][i] = api.Hit{}
	}
	if c, _ := e.Search(q, nil); !slices.Equal(b, want) || !slices.Equal(c, want) {
		t.Error("two answers share memory")
	}
	takes(t, e, row(1, 50, 9)...)
	l, _, _ := e.Take(0, 3)
	for i := range l[:cap(l)] {
		l[:cap(l)][i] = api.Hit{}
	}
	rest, _, _ := e.Take(0, 100)
	if len(l) != 3 || slices.Contains(rest, api.Hit{}) {
		t.Error(rest)
	}
	p.put(row(1, 50, 9)...)
	p.holds(t, "behind all of them", e.Ask, 2, questions())
}

// A query that is handed in is neither written into nor kept.
func TestQueriesAreNotKept(t *testing.T) {
	e, p := filled(t, 12, 60)
	const text = `{service = "a" and not kind = client} || {.k = 1} > {} | count > 0 | top 3 by dur`
	q, again := parsed(t, text), parsed(t, text)
	want := p.hits(q)
	if l, n := e.Search(q, nil); n != api.OK || !slices.Equal(l, want) || !reflect.DeepEqual(q, again) {
		t.Fatal(l, n)
	}
	e.Watch(q, 100)
	if !reflect.DeepEqual(q, again) {
		t.Fatal("a query was written into")
	}
	q.Set.Args[0].Args[0].Args[0].Value.Text = "none"
	q.Stages[0].Int = 1000
	var l []api.Span
	for _, s := range p {
		l = append(l, s)
	}
	takes(t, e, l...)
	if got, lost, n := e.Take(0, 100); lost != 0 || n != api.OK || !slices.Equal(got, want) {
		t.Fatal(got, lost, n, want)
	}
}

// An error's memory is the caller's too.
func TestErrorsAreApart(t *testing.T) {
	e := opened(t, disk.New(), small)
	for range 2 {
		_, err := e.Ingest([]byte("xyz"))
		refused(t, "no batch", err, 3, &api.Fault{Err: api.ErrBatchHead})
		*err.(*api.Reject).Err.(*api.Fault) = api.Fault{At: 9}
		*err.(*api.Reject) = api.Reject{}
	}
}
