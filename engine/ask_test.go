package engine_test

import (
	"bytes"
	"fmt"
	"math/rand/v2"
	"slices"
	"strings"
	"testing"

	"spoor/api"
	"spoor/batch"
	"spoor/disk"
	"spoor/engine"
)

func isNone(t *testing.T, e *engine.Engine, request []byte) {
	t.Helper()
	says(t, e, "no request", request, laid(api.ErrEngineRequest))
}

// filled is an engine with a little of everything, and the plain one that goes with it.
func filled(t *testing.T, seed uint64, n int) (*engine.Engine, plain) {
	t.Helper()
	e, p := opened(t, disk.New(), small), plain{}
	l := someSpans(rand.New(rand.NewPCG(23, seed)), n)
	takes(t, e, l...)
	p.put(l...)
	return e, p
}

// E4: each kind has just its parts: fewer bytes, or more, or numbers that wire refuses, are no request, whatever else is wrong.
func TestRequestsThatAreNone(t *testing.T) {
	e, _ := filled(t, 1, 30)
	for _, q := range append(questions(), question{kind: 7, from: -1 << 63, to: 5}) {
		b := q.bytes()
		for n := range b {
			if q.kind != 11 {
				isNone(t, e, b[:n])
			}
		}
		isNone(t, e, append(slices.Clone(b), 0))
		isNone(t, e, append(slices.Clone(b), b...))
		isNone(t, e, laid(q.kind+128, b[1:]))
	}
	for _, kind := range []uint64{0, 14, 15, 127, 128, 1 << 31, 1 << 32, 1<<32 + 11, 1 << 63, 1<<64 - 1} {
		isNone(t, e, laid(kind))
		isNone(t, e, laid(kind, 0, 7))
	}
	long := append(bytes.Repeat([]byte{0xff}, 9), 2)
	for _, b := range [][]byte{{0x8b, 0}, {1, 0x80, 0, 7}, {1, 0, 0x87, 0}, {0xff}, laid(1, long, 7), laid(1, 0, long), laid(7, long, 0), laid(12, "{}", long), laid(13, []byte{0x82, 0, '{', '}'})} {
		isNone(t, e, b)
	}
	for _, text := range []string{"{\xff}", "\xc3", "{service = \"\xed\xa0\x80\"}", strings.Repeat(" ", 2001), strings.Repeat("\xff", 2001)} {
		isNone(t, e, laid(13, text))
		isNone(t, e, laid(12, text, 0))
	}
	isNone(t, e, laid(12, "{", 0, 0))
	isNone(t, e, laid(1, lo(99), 0))
	isNone(t, e, laid(7, int64(-1), int64(0), 0))
	says(t, e, "2000 bytes", laid(13, "{}"+strings.Repeat(" ", 1998)), laid(0, 0, len(names)))
}

// Of all kinds, of any bytes: an answer, which is that of the request once more.
func TestAnyRequest(t *testing.T) {
	r := rand.New(rand.NewPCG(23, 2))
	e, _ := filled(t, 2, 60)
	all := questions()
	for range 20000 {
		b := all[r.IntN(len(all))].bytes()
		for range r.IntN(3) {
			switch i := r.IntN(len(b)); r.IntN(3) {
			case 0:
				b[i] = byte(r.IntN(256))
			case 1:
				b = slices.Insert(b, i, byte(r.IntN(256)))
			case 2:
				b = append(b[:i], b[i+1:]...)
			}
			if len(b) == 0 {
				break
			}
		}
		a := e.Ask(b)
		if len(a) == 0 || !bytes.Equal(a, e.Ask(b)) {
			t.Fatalf("%x: %x", b, a)
		}
	}
}

// P23.1: Ask answers what the table says of S, kind by kind, whatever was asked and done ahead.
func TestAskAnswersByTheTable(t *testing.T) {
	for seed := range uint64(30) {
		r := rand.New(rand.NewPCG(231, seed))
		fan := 2 + r.IntN(15)
		e, p := opened(t, disk.New(), api.Config{Segment: 64 + r.IntN(500), Fan: fan, Workers: 1 + r.IntN(16)}), plain{}
		for step := range 12 {
			l := someSpans(r, r.IntN(12))
			takes(t, e, l...)
			p.put(l...)
			what := fmt.Sprint("seed ", seed, ", step ", step)
			p.holds(t, what, e.Ask, int64(fan), few(r, 40))
			switch r.IntN(4) {
			case 0:
				ok(t, what, e.Flush())
			case 1:
				ok(t, what, e.Checkpoint())
			}
		}
		p.holds(t, fmt.Sprint("seed ", seed), e.Ask, int64(fan), questions())
	}
}

// P23.1: requests, questions, watches, Flush and Checkpoint change no answer.
func TestNothingElseChangesAnswers(t *testing.T) {
	e, p := filled(t, 3, 40)
	all := questions()
	p.holds(t, "at first", e.Ask, 2, all)
	for _, do := range []func(){
		func() { e.Search(parsed(t, `{} > {}`), nil) },
		func() { e.Watch(parsed(t, `{}`), 3) },
		func() { takes(t, e) },
		func() { e.Take(0, 9) },
		func() { e.Flush() },
		func() { e.Checkpoint() },
		func() { e.Unwatch(0) },
		func() { e.Checkpoint() },
		func() { e.Ingest([]byte("junk")) },
		func() { e.Sick() },
	} {
		do()
		p.holds(t, "behind it", e.Ask, 2, all)
	}
}

// Of each kind by hand: one trace with two trees, a link, an orphan, an attribute and an event.
func TestEachKind(t *testing.T) {
	e := opened(t, disk.New(), small)
	a, b := one(7, 1, 0, "a", 5, 25), one(7, 2, 1, "b", 10, 20)
	b.Status = api.Failed
	c := one(7, 3, 9, "c", 30, 40)
	c.Links = []api.SpanID{2}
	takes(t, e, a, b, c, one(8, 1, 0, "a", api.Hour, api.Hour+1), one(8, 2, 1, "b", 2*api.Hour, 2*api.Hour+200))
	a1 := []byte{0, 0, 0, 0, 0, 0, 0, 0, 0, 0, 0, 0, 0, 0, 0, 7, 0, 0, 0, 0, 0, 0, 0, 1, 0, 0, 0, 0, 0, 0, 0, 0, 0, 1, 'a', 2, 'd', 'o', 0, 0, 5, 25, 0, 0}
	b2 := []byte{0, 0, 0, 0, 0, 0, 0, 0, 0, 0, 0, 0, 0, 0, 0, 7, 0, 0, 0, 0, 0, 0, 0, 2, 0, 0, 0, 0, 0, 0, 0, 1, 0, 1, 'b', 2, 'd', 'o', 0, 2, 10, 20, 0, 0}
	c3 := []byte{0, 0, 0, 0, 0, 0, 0, 0, 0, 0, 0, 0, 0, 0, 0, 7, 0, 0, 0, 0, 0, 0, 0, 3, 0, 0, 0, 0, 0, 0, 0, 9, 1, 0, 0, 0, 0, 0, 0, 0, 2, 1, 'c', 2, 'd', 'o', 0, 0, 30, 40, 0, 0}
	z := func(v int64) []byte { return laid(v) }
	path := laid(3, 1, z(5), z(10), 2, z(10), z(20), 1, z(20), z(25))
	near := laid("a", "b", 1, 1, 10, 10, 10, 10, 10, 10, 10)
	far := laid("a", "b", 1, 0, 200, 200, 203, 200, 203, 200, 203)
	both := laid("a", "b", 2, 1, 210, 10, 10, 200, 203, 200, 203)
	for _, x := range []struct {
		what          string
		request, want []byte
	}{
		{"1", laid(1, lo(7)), laid(0, 3, 44, a1, 44, b2, 52, c3)},
		{"1, no such", laid(1, lo(9)), laid(api.ErrEngineNone)},
		{"1, no such", laid(1, 7, 0), laid(api.ErrEngineNone)},
		{"2", laid(2, lo(7)), laid(0, 3, 1, 0, 1, 1, 0, z(5), z(25), 2, 1, 0, 1, 1, z(10), z(20), 3, 0, 2, 3, 0, z(30), z(40))},
		{"2, no such", laid(2, lo(9)), laid(api.ErrEngineNone)},
		{"3", laid(3, lo(7)), laid(0, 3, 1, 20, 10, 10, 2, 10, 10, 10, 3, 10, 10, 10)},
		{"3, no such", laid(3, lo(9)), laid(api.ErrEngineNone)},
		{"4", laid(4, lo(7), 1), laid(0, path)},
		{"4, an orphan", laid(4, lo(7), 3), laid(0, 1, 3, z(30), z(40))},
		{"4, no root", laid(4, lo(7), 2), laid(api.ErrEngineNone)},
		{"4, no span", laid(4, lo(7), 9), laid(api.ErrEngineNone)},
		{"4, nothing", laid(4, lo(7), 0), laid(api.ErrEngineNone)},
		{"4, no such", laid(4, lo(9), 1), laid(api.ErrEngineNone)},
		{"5", laid(5, lo(7)), laid(0, 2, 3, 3, z(0), 1, 3, z(30), z(40), 1, 2, z(10), path)},
		{"5, no such", laid(5, lo(9)), laid(api.ErrEngineNone)},
		{"6", laid(6, lo(7), 1), laid(0, 2, "a", 10, "b", 10, 2, "a", 10, "b", 10)},
		{"6, no root", laid(6, lo(7), 2), laid(api.ErrEngineNone)},
		{"6, no such", laid(6, lo(9), 1), laid(api.ErrEngineNone)},
		{"7", laid(7, z(0), z(1)), laid(0, 1, near)},
		{"7, nothing", laid(7, z(1), z(2)), laid(0, 0)},
		{"7, both", laid(7, z(0), z(3)), laid(0, 1, both)},
		{"7, below 0", laid(7, z(-1), z(3)), laid(api.ErrRollupHour)},
		{"7, back", laid(7, z(2), z(1)), laid(api.ErrRollupHour)},
		{"7, beyond", laid(7, z(0), z(1<<21+1)), laid(api.ErrRollupHour)},
		{"8", laid(8, z(0), z(3), 0, 1), laid(0, 1, both)},
		{"8, none of them", laid(8, z(0), z(3), 2, 0), laid(0, 0)},
		{"8, by 3", laid(8, z(0), z(3), 3, 1), laid(api.ErrArg)},
		{"8, by 2^32", laid(8, z(0), z(3), uint64(1<<32), 1), laid(api.ErrArg)},
		{"8, 1001", laid(8, z(0), z(3), 0, 1001), laid(api.ErrArg)},
		{"8, 2^32", laid(8, z(0), z(3), 0, uint64(1<<32)), laid(api.ErrArg)},
		{"8, all wrong", laid(8, z(3), z(0), 3, 1001), laid(api.ErrRollupHour)},
		{"9", laid(9, z(0), z(3)), laid(0, 2, z(0), z(2), 1, near, z(2), z(1), 1, far)},
		{"9, nothing", laid(9, z(3), z(3)), laid(0, 0)},
		{"9, back", laid(9, z(3), z(2)), laid(api.ErrRollupHour)},
		{"10", laid(10, 0, 0, 9), laid(0, 2, lo(7), 3, lo(8), 2)},
		{"10, one", laid(10, 0, 0, 1), laid(0, 1, lo(7), 3)},
		{"10, behind", laid(10, lo(7), 9), laid(0, 1, lo(8), 2)},
		{"10, behind all", laid(10, lo(8), 9), laid(0, 0)},
		{"10, by Hi", laid(10, 1, 0, 9), laid(0, 0)},
		{"11", laid(11), laid(0, 5, 2, z(0), z(3))},
		{"12", laid(12, `{service = "b"}`, 0), laid(0, 2, lo(7), 2, lo(8), 2)},
		{"12, by 7", laid(12, `{service = "b"}`, 7), laid(0, 2, lo(7), 2, lo(8), 2)},
		{"12, by 6", laid(12, `{service = "b"}`, 6), laid(api.ErrHaltBudget)},
		{"12, by 2^64 - 1", laid(12, `{service = "b"}`, uint64(1<<64-1)), laid(0, 2, lo(7), 2, lo(8), 2)},
		{"12, no query", laid(12, `{a}`, 1), laid(api.ErrLangWord, 1)},
		{"12, nothing", laid(12, ``, 1), laid(api.ErrLangWord, 0)},
		{"13", laid(13, `{service = "c" and .k = 1}`), laid(0, 2, ".k", "1", "service", "c", 0)},
		{"13, of one", laid(13, `{service = "c"}`), laid(0, 1, "service", "c", 1)},
		{"13, of all", laid(13, `{}`), laid(0, 0, 2)},
		{"13, no query", laid(13, `{dur = "x"}`), laid(api.ErrLangValue, 7)},
	} {
		says(t, e, x.what, x.request, x.want)
	}
}

// Of the kind 10 no more than 1000 are told, however many are asked for; the next ones begin behind them.
func TestManyTraces(t *testing.T) {
	e := opened(t, disk.New(), small)
	var l []api.Span
	want := func(from, n int) []byte {
		b := laid(0, n)
		for i := range n {
			b = append(b, laid(lo(uint64(from+i)), 1)...)
		}
		return b
	}
	for i := range 1200 {
		l = append(l, one(uint64(i+1), 1, 0, "a", 0, 9))
		if len(l) == 400 {
			takes(t, e, l...)
			l = nil
		}
	}
	for _, most := range []uint64{1000, 1001, 1200, 1 << 31, 1<<64 - 1} {
		says(t, e, "all", laid(10, 0, 0, most), want(1, 1000))
		says(t, e, "the last ones", laid(10, lo(1000), most), want(1001, 200))
		says(t, e, "from the middle", laid(10, lo(150), most), want(151, 1000))
	}
	says(t, e, "few", laid(10, lo(3), 999), want(4, 999))
}

// A number that has come to its greatest is told as that: calls' Cap.
func TestGreatTallies(t *testing.T) {
	e, p := opened(t, disk.New(), small), plain{}
	l := []api.Span{one(1, 1, 0, "a", 0, 9)}
	for id := range api.SpanID(9) {
		l = append(l, one(1, id+2, 1, "b", 0, api.MaxTime))
		takes(t, e, l...)
		p.put(l...)
		p.holds(t, "great ones", e.Ask, 2, questions())
	}
	sum := uint64(1<<64 - 1) // nine times 2^62
	least, most := uint64(1<<62), uint64(1<<62+1<<57-1)
	says(t, e, "great ones", laid(7, int64(0), int64(1)), laid(0, 1, "a", "b", 9, 0, sum, least, most, least, most, least, most))
}

// Traces whose forests come and go: better spans take calls back, hours and edges end.
func TestTalliesAreTakenBack(t *testing.T) {
	e := opened(t, disk.New(), small)
	a, b := one(1, 1, 0, "a", 0, 9), one(1, 2, 1, "b", 5*api.Hour, 5*api.Hour+1)
	takes(t, e, a, b)
	says(t, e, "a call", laid(11), laid(0, 2, 1, int64(5), int64(6)))
	b.Start, b.End = 7*api.Hour, 7*api.Hour+1
	takes(t, e, b)
	says(t, e, "another hour", laid(11), laid(0, 2, 1, int64(7), int64(8)))
	says(t, e, "another hour", laid(7, int64(0), int64(7)), laid(0, 0))
	a.End, a.Service = 10, "b"
	takes(t, e, a)
	says(t, e, "no call", laid(11), laid(0, 2, 1, 0, 0))
	says(t, e, "no term", laid(13, `{service = "a"}`), laid(0, 1, "service", "a", 0))
	says(t, e, "no term", laid(12, `{service = "a"}`, 1), laid(0, 0))
	a.End, a.Service = 11, "c"
	takes(t, e, a)
	says(t, e, "a call again", laid(11), laid(0, 2, 1, int64(7), int64(8)))
}

// Batches that are no more than the chapter's limits, and S at its own.
func TestFullTrace(t *testing.T) {
	e, p := opened(t, disk.New(), small), plain{}
	var l []api.Span
	for i := range api.SpanID(1000) { // a chain as deep as may be
		s := one(1, i+1, i, []string{"a", "b", "c"}[i%3], int64(i), 5000-int64(i))
		l = append(l, s)
	}
	for part := range slices.Chunk(l, 500) {
		takes(t, e, part...)
		p.put(part...)
	}
	for kind := range 13 {
		q := question{kind: kind + 1, trace: lo(1), from: 0, to: 2, most: 9, query: `{leaf = true} || {service = "a"} >> {service = "b"}`}
		if kind+1 == 4 || kind+1 == 6 {
			q.root = 1
		}
		p.holds(t, "a full trace", e.Ask, 2, []question{q})
	}
	b, err := batch.Encode([]api.Span{one(1, 1001, 0, "a", 0, 1)})
	if err != nil {
		t.Fatal(err)
	}
	_, err = e.Ingest(b)
	refused(t, "one more", err, len(b), api.ErrStoreTrace)
}
