package engine_test

import (
	"bytes"
	"fmt"
	"math/rand/v2"
	"testing"

	"spoor/api"
	"spoor/batch"
	"spoor/disk"
	"spoor/engine"
	"spoor/journal"
)

// E2: what became of a batch's spans is counted; records are numbered from 0 on, also those without spans.
func TestAcks(t *testing.T) {
	e := opened(t, disk.New(), small)
	a, b, c := one(1, 1, 0, "a", 0, 9), one(1, 1, 0, "a", 0, 10), one(1, 2, 0, "a", 0, 9)
	for i, x := range []struct {
		l    []api.Span
		want api.Ack
	}{
		{nil, api.Ack{}},
		{[]api.Span{a, c}, api.Ack{Fresh: 2}},
		{[]api.Span{b, a, a}, api.Ack{Better: 1, Kept: 2}},
		{[]api.Span{a, b, c}, api.Ack{Kept: 3}},
		{[]api.Span{one(2, 1, 0, "a", 0, 9), one(2, 1, 0, "a", 0, 10), one(2, 1, 0, "a", 0, 10)}, api.Ack{Fresh: 1, Better: 1, Kept: 1}},
		{nil, api.Ack{}},
	} {
		x.want.Record = uint64(i)
		if got := takes(t, e, x.l...); got != x.want {
			t.Errorf("%d: %+v, not %+v", i, got, x.want)
		}
	}
}

// Each error of batch is told as it is, with its place, and wrapped.
func TestIngestOfNoBatch(t *testing.T) {
	e := opened(t, disk.New(), small)
	good := coded(t, one(1, 1, 0, "a", 0, 9), one(1, 2, 0, "b", 0, 9))
	for n := range good {
		_, err := e.Ingest(good[:n])
		if n < 3 {
			refused(t, "a beginning", err, n, &api.Fault{Err: api.ErrBatchHead})
		} else {
			refused(t, "a beginning", err, n, &api.Fault{At: n, Err: api.ErrWireEnd})
		}
	}
	_, err := e.Ingest(nil)
	refused(t, "nothing", err, 0, &api.Fault{Err: api.ErrBatchHead})
	_, err = e.Ingest(append(bytes.Clone(good), 0))
	refused(t, "a byte more", err, len(good)+1, &api.Fault{At: len(good), Err: api.ErrWireRest})
	_, err = e.Ingest(make([]byte, 65537))
	refused(t, "too long", err, 65537, &api.Fault{Err: api.ErrBatchLong})
	_, err = e.Ingest([]byte{0x53, 0x42, 1, 0, 0, 0xf5, 3})
	refused(t, "too many", err, 7, &api.Fault{At: 5, Err: api.ErrBatchMany})
	r := rand.New(rand.NewPCG(23, 3))
	for range 3000 {
		b := bytes.Clone(good)
		b[r.IntN(len(b))] ^= byte(1 + r.IntN(255))
		_, want := batch.Decode(b)
		d := opened(t, disk.New(), small)
		if _, err := d.Ingest(b); want != nil {
			refused(t, fmt.Sprintf("%x", b), err, len(b), want)
		} else if err != nil {
			t.Fatal(err)
		}
	}
	if e.Sick() {
		t.Error("sick by a batch that is none")
	}
	says(t, e, "behind all of them", laid(11), laid(0, 0, 0, 0, 0))
	if a := takes(t, e, one(1, 1, 0, "a", 0, 9)); a.Record != 0 {
		t.Error(a)
	}
}

// P23.2: what is refused leaves nothing: no answer, no watch and no file has changed.
func TestRefusedLeavesNothing(t *testing.T) {
	d := disk.New()
	e := opened(t, d, small)
	takes(t, e, row(1, 1, 500)...)
	takes(t, e, row(1, 501, 499)...)
	takes(t, e, row(2, 1, 3)...)
	e.Watch(parsed(t, `{}`), 1000)
	before, files := setOf(e), disked(d)
	better := one(2, 1, 0, "a", 0, 99)
	d.Arm(1, api.Fail, 0) // a refused batch makes no change: the disk stays armed
	for range 3 {
		for _, x := range []struct {
			l    []api.Span
			want api.Errno
		}{
			{append(row(1, 1000, 2), better), api.ErrStoreTrace},
			{append([]api.Span{better, one(3, 1, 0, "z", 0, 1)}, row(1, 2000, 2)...), api.ErrStoreTrace},
		} {
			b := coded(t, x.l...)
			_, err := e.Ingest(b)
			refused(t, "too many", err, len(b), x.want)
		}
		_, err := e.Ingest([]byte("SB"))
		refused(t, "no batch", err, 2, &api.Fault{Err: api.ErrBatchHead})
		if e.Sick() || setOf(e) != before || disked(d) != files {
			t.Fatal("something has changed")
		}
		took(t, e, 0, 9, 0)
	}
	b := coded(t, better)
	_, err := e.Ingest(b)
	refused(t, "a disk that fails", err, len(b), api.ErrDiskFail)
	_, err = e.Ingest([]byte("SB"))
	refused(t, "sick, and no batch", err, 2, api.ErrEngineSick)
	if !e.Sick() || setOf(e) != before {
		t.Fatal("something has changed")
	}
	took(t, e, 0, 9, 0)
	if l, n := e.Search(parsed(t, `{dur = 99}`), nil); len(l) > 0 || n != api.OK {
		t.Fatal(l, n)
	}
}

// ErrStoreFull: 100000 spans in all. A trace that is too long is named first.
func TestFullEngine(t *testing.T) {
	d := disk.New()
	c := api.Config{Segment: 1 << 20, Fan: 2, Workers: 4}
	e := opened(t, d, c)
	var l []api.Span
	for i := range 100000 {
		l = append(l, one(1+uint64(i%150), api.SpanID(i+1), 0, "a", 0, 9))
		if len(l) == 500 {
			takes(t, e, l...)
			l = nil
		}
	}
	fresh := one(9999, 1, 0, "a", 0, 9)
	for _, x := range []struct {
		l    []api.Span
		want api.Errno
	}{{[]api.Span{fresh}, api.ErrStoreFull}, {append(row(1, 1<<40, 500), fresh), api.ErrStoreTrace}} {
		b, err := batch.Encode(x.l[max(0, len(x.l)-500):])
		if err != nil {
			t.Fatal(err)
		}
		_, err = e.Ingest(b)
		if number(err) != x.want {
			t.Error(err)
		}
	}
	if a := takes(t, e, one(1, 1, 0, "b", 0, 10)); a.Better != 1 {
		t.Error(a)
	}
	says(t, e, "full", laid(11), laid(0, 100000, 150, 0, 0))
	ok(t, "Checkpoint", e.Checkpoint())
	e = opened(t, d, c)
	says(t, e, "full, opened anew", laid(11), laid(0, 100000, 150, 0, 0))
	says(t, e, "full", laid(12, `{service = "b"}`, 0), laid(0, 1, lo(1), 1))
}

// A record of the journal is, byte for byte, a batch that was taken; nothing else lies on the disk.
func TestWhatLiesOnTheDisk(t *testing.T) {
	d := disk.New()
	e := opened(t, d, small)
	r := rand.New(rand.NewPCG(23, 4))
	var handed [][]byte
	for range 9 {
		b := coded(t, someSpans(r, r.IntN(4))...)
		if _, err := e.Ingest(b); err != nil {
			t.Fatal(err)
		}
		e.Ingest(b[1:])
		handed = append(handed, b)
	}
	j, _, err := journal.Open(d.Copy(), 64)
	if err != nil || j.Next() != 9 {
		t.Fatal(err)
	}
	for number, b := range j.Records(0) {
		if !bytes.Equal(b, handed[number]) {
			t.Errorf("the record %d is %x, not %x", number, b, handed[number])
		}
	}
	ok(t, "Checkpoint", e.Checkpoint())
	if names, _ := d.Names(); len(names) != 2 || names[0] != "blk-00000000000000000009" || names[1][:4] != "seg-" {
		t.Error(names)
	}
}

// Engines on disks of their own have nothing to do with one another.
func TestEnginesAreApart(t *testing.T) {
	var engines []*engine.Engine
	var plains []plain
	r := rand.New(rand.NewPCG(23, 5))
	for range 3 {
		engines, plains = append(engines, opened(t, disk.New(), small)), append(plains, plain{})
	}
	for range 60 {
		i := r.IntN(3)
		l := someSpans(r, 3)
		takes(t, engines[i], l...)
		plains[i].put(l...)
		for i, e := range engines {
			plains[i].holds(t, "apart", e.Ask, 2, few(r, 5))
		}
	}
}
