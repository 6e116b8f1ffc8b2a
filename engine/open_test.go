package engine_test

import (
	"errors"
	"fmt"
	"math/rand/v2"
	"slices"
	"testing"

	"spoor/api"
	"spoor/disk"
	"spoor/engine"
	"spoor/journal"
	"spoor/vault"
)

func same[T comparable](a, b []T) bool { return slices.Equal(a, b) }

// written is a disk with a block (none, if it has no number) and a journal of these records.
func written(t *testing.T, block *api.Block, records ...[]byte) *disk.Disk {
	t.Helper()
	d := disk.New()
	if block != nil {
		ok(t, "Save", vault.Save(d, *block))
	}
	j, _, err := journal.Open(d, 64)
	if err != nil {
		t.Fatal(err)
	}
	for _, b := range records {
		if _, n := j.Append(b); n != api.OK {
			t.Fatal(n)
		}
	}
	return d
}

// spoils writes over the first file of the journal.
func spoils(t *testing.T, d *disk.Disk, file string) {
	t.Helper()
	ok(t, "Flip", d.Flip(file, 0, 1))
}

// faults holds the error of Open against one, also its type.
func faults(t *testing.T, what string, d *disk.Disk, c api.Config, want error) {
	t.Helper()
	e, r, err := engine.Open(d, c)
	if e != nil || r != (api.Recovery{}) {
		t.Fatalf("%s: beside an error: %v, %v", what, e, r)
	}
	switch w := want.(type) {
	case *api.Fault:
		if f, is := err.(*api.Fault); !is || *f != *w {
			t.Fatalf("%s: %v, not %v", what, err, want)
		}
	case *api.FileFault:
		if f, is := err.(*api.FileFault); !is || *f != *w {
			t.Fatalf("%s: %v, not %v", what, err, want)
		}
	}
	if !errors.Is(err, number(want)) {
		t.Fatalf("%s: %v is not %v", what, err, number(want))
	}
}

func TestOpenConfig(t *testing.T) {
	for _, c := range []api.Config{
		{Segment: 64, Fan: 2, Workers: 1}, {Segment: 1 << 24, Fan: 16, Workers: 16}, {Segment: 65, Fan: 3, Workers: 2},
	} {
		e, r, err := engine.Open(disk.New(), c)
		if e == nil || err != nil || r != (api.Recovery{Segments: 1}) {
			t.Error(c, r, err)
		}
	}
	d := written(t, nil)
	spoils(t, d, "seg-0000000000")
	before := disked(d)
	for _, c := range []api.Config{
		{}, {Segment: 63, Fan: 2, Workers: 1}, {Segment: 1<<24 + 1, Fan: 2, Workers: 1}, {Segment: -64, Fan: 2, Workers: 1},
		{Segment: 64, Fan: 1, Workers: 1}, {Segment: 64, Fan: 17, Workers: 1}, {Segment: 64, Fan: -1 << 63, Workers: 1},
		{Segment: 64, Fan: 2}, {Segment: 64, Fan: 2, Workers: 17}, {Segment: 64, Fan: 2, Workers: 1<<63 - 1},
	} {
		faults(t, "a configuration", d, c, &api.Fault{Err: api.ErrEngineConfig})
		faults(t, "no disk", nil, c, &api.Fault{Err: api.ErrArg})
	}
	faults(t, "no disk", nil, small, &api.Fault{Err: api.ErrArg})
	if disked(d) != before {
		t.Error("the disk has changed")
	}
}

// Each error of Open stands ahead of those behind it: each disk has all that is wrong with the ones below, too.
func TestOpenErrors(t *testing.T) {
	full := row(1, 1, 1001)
	junk := []byte("junk")
	many := &api.Block{Through: 5, Spans: full}
	gap := &api.Block{Through: 5}

	d := written(t, many, junk)
	spoils(t, d, "seg-0000000000")
	spoils(t, d, "blk-00000000000000000005")
	before := disked(d)
	faults(t, "a spoilt block", d, small, &api.FileFault{Name: "blk-00000000000000000005", Err: api.ErrVaultSpoilt})
	d.Flip("blk-00000000000000000005", 0, 1)
	faults(t, "too many of a trace", d, small, &api.Fault{Err: api.ErrStoreTrace})
	if d.Flip("blk-00000000000000000005", 0, 1); disked(d) != before {
		t.Error("the disk has changed")
	}

	d = written(t, gap, junk)
	spoils(t, d, "seg-0000000000")
	faults(t, "a spoilt journal", d, small, &api.FileFault{Name: "seg-0000000000", Err: api.ErrJournalSpoilt})
	faults(t, "Next below Through", written(t, gap, junk, junk, junk, junk), small, &api.Fault{Err: api.ErrEngineGap})
	faults(t, "a block alone", written(t, &api.Block{Through: 1}), small, &api.Fault{Err: api.ErrEngineGap})

	d = disk.New()
	ok(t, "Save", vault.Save(d, *gap))
	faults(t, "no journal", d, small, &api.Fault{Err: api.ErrEngineGap})
	if s := sized(t, d); s != "blk-00000000000000000005:64 seg-0000000000:32" {
		t.Error("journal.Open has left", s) // it has written all the same
	}
	d.Arm(1, api.Stop, 0)
	d.Create("x")
	faults(t, "a disk that is off", d, small, &api.FileFault{Err: api.ErrDiskOff})
	faults(t, "a disk that is off, and a configuration", d, api.Config{}, &api.Fault{Err: api.ErrEngineConfig})
}

// The changes that Open makes are the journal's; where one is refused, that is told.
func TestOpenIsRefused(t *testing.T) {
	want := []*api.FileFault{{Name: "seg-0000000000"}, {Name: "seg-0000000000"}, {Name: "seg-0000000000"}, {}}
	for i, f := range want {
		d := disk.New()
		d.Arm(i+1, api.Fail, 0)
		f.Err = api.ErrDiskFail
		faults(t, fmt.Sprint("armed with ", i+1), d, small, f)
	}
	d := disk.New()
	d.Arm(5, api.Fail, 0)
	opened(t, d, small)
	if d.Create("x") != api.ErrDiskFail {
		t.Error("Open makes other changes than the journal")
	}
}

// First above Through: the journal's files were dropped, and the block is gone.
func TestOpenFirstAboveThrough(t *testing.T) {
	for through := range uint64(4) {
		d := disk.New()
		e := opened(t, d, small)
		for id := range api.SpanID(3) {
			takes(t, e, one(1, id+1, 0, "a", 0, 9))
		}
		ok(t, "Checkpoint", e.Checkpoint())
		ok(t, "Remove", d.Remove("blk-00000000000000000003"))
		ok(t, "Save", vault.Save(d, api.Block{Through: through, Spans: row(1, 1, int(through))}))
		if through < 2 { // the last file stays, which has the record 2
			faults(t, "a gap", d, small, &api.Fault{Err: api.ErrEngineGap})
			continue
		}
		if got := setOf(opened(t, d, small)); got != setOf(e) {
			t.Errorf("Through %d: %s", through, got)
		}
	}
}

// A record that is no batch, or does not fit, is told at its number, the first one first; those below Through are not looked at.
func TestOpenRecords(t *testing.T) {
	good, junk := coded(t, one(1, 1, 0, "a", 0, 9)), []byte("junk")
	first, second, third := coded(t, row(1, 1, 500)...), coded(t, row(1, 501, 500)...), coded(t, row(1, 1001, 1)...)
	spoilt := func(at int) *api.Fault { return &api.Fault{At: at, Err: api.ErrJournalSpoilt} }
	faults(t, "junk", written(t, nil, junk), small, spoilt(0))
	faults(t, "nothing", written(t, nil, good, nil, good, junk), small, spoilt(1))
	faults(t, "junk at 2", written(t, nil, good, good, junk, third), small, spoilt(2))
	faults(t, "too many", written(t, nil, first, second, good, third, junk), small, spoilt(3))
	faults(t, "too many, with a block", written(t, &api.Block{Through: 2, Spans: row(1, 1, 1000)}, junk, junk, good, third), small, spoilt(3))
	faults(t, "a gap ahead of junk", written(t, &api.Block{Through: 3}, junk, junk), small, &api.Fault{Err: api.ErrEngineGap})
	e := opened(t, written(t, &api.Block{Through: 2, Spans: row(1, 1, 1000)}, junk, third, good, good), small)
	says(t, e, "junk below Through", laid(11), laid(0, 1000, 1, 0, 0))
}

// S is what the block has, and what the records from Through on have: of one name the greatest.
func TestOpenFindsAll(t *testing.T) {
	lesser, greater := one(1, 1, 0, "a", 0, 9), one(1, 1, 0, "b", 0, 10)
	other, third := one(1, 2, 1, "c", 2, 3), one(2, 1, 0, "c", 2, 3)
	for _, x := range []struct {
		block   *api.Block
		records [][]byte
		want    []api.Span
	}{
		{nil, nil, nil},
		{nil, [][]byte{coded(t)}, nil},
		{nil, [][]byte{coded(t, lesser, other), coded(t, third, greater)}, []api.Span{greater, other, third}},
		{nil, [][]byte{coded(t, greater), coded(t, lesser)}, []api.Span{greater}},
		{&api.Block{Spans: []api.Span{greater}}, [][]byte{coded(t, lesser, other)}, []api.Span{greater, other}},
		{&api.Block{Through: 1, Spans: []api.Span{lesser}}, [][]byte{coded(t, other), coded(t, greater)}, []api.Span{greater}},
		{&api.Block{Through: 1, Spans: []api.Span{lesser}}, [][]byte{coded(t, greater)}, []api.Span{lesser}},
		{&api.Block{Through: 2, Spans: []api.Span{lesser, third}}, [][]byte{coded(t, greater), coded(t, other)}, []api.Span{lesser, third}},
	} {
		d := written(t, x.block, x.records...)
		for range 2 {
			e, r, err := engine.Open(d, small)
			if err != nil || r.Next != uint64(len(x.records)) || e.Sick() {
				t.Fatal(r, err)
			}
			p := plain{}
			p.put(x.want...)
			p.holds(t, fmt.Sprint(x.want), e.Ask, 2, append(questions(), question{kind: 1, trace: lo(1)}))
			if a, err := e.Ingest(coded(t)); err != nil || a != (api.Ack{Record: r.Next}) {
				t.Fatal(a, err)
			}
			x.records = append(x.records, nil)
		}
	}
}

// What journal.Open tells is told; a block that was not finished, elder blocks and all other files are left.
func TestOpenLeavesFiles(t *testing.T) {
	d := written(t, &api.Block{Through: 1}, coded(t, one(1, 1, 0, "a", 0, 9)), coded(t, one(1, 2, 0, "a", 0, 9)))
	ok(t, "Save", vault.Save(d, api.Block{Through: 2, Spans: row(1, 1, 2)}))
	for _, name := range []string{"blk.tmp", "blk-2", "other", "seg-1"} {
		ok(t, "Create", d.Create(name))
		ok(t, "Append", d.Append(name, []byte("x")))
	}
	before := sized(t, d)
	for range 2 {
		_, r, err := engine.Open(d, small)
		if err != nil || r != (api.Recovery{Segments: 2, Next: 2}) || sized(t, d) != before {
			t.Fatal(r, err, sized(t, d))
		}
	}
	ok(t, "Append", d.Append("seg-0000000001", []byte("SPR")))
	for _, torn := range []int{3, 0} {
		_, r, err := engine.Open(d, small)
		if err != nil || r != (api.Recovery{Segments: 2, Next: 2, Torn: torn}) || sized(t, d) != before {
			t.Fatal(r, err, sized(t, d))
		}
	}
}

// An engine that is opened has no watches, and is not sick, whatever the one ahead was.
func TestOpenIsNew(t *testing.T) {
	d := disk.New()
	e := opened(t, d, small)
	e.Watch(parsed(t, `{}`), 9)
	takes(t, e, one(1, 1, 0, "a", 0, 9))
	d.Arm(1, api.Fail, 0)
	if e.Flush() != api.ErrDiskFail || !e.Sick() {
		t.Fatal("not sick")
	}
	e = opened(t, d, small)
	if _, _, n := e.Take(0, 9); n != api.ErrWatchNone || e.Sick() {
		t.Fatal(n, e.Sick())
	}
	if w, n := e.Watch(parsed(t, `{}`), 9); w != 0 || n != api.OK {
		t.Fatal(w, n)
	}
	took(t, e, 0, 9, 0)
}

// Whatever the disk has, Open ends with an engine, or with an error of its chapter.
func TestOpenOfAnything(t *testing.T) {
	r := rand.New(rand.NewPCG(23, 1))
	for range 400 {
		d := disk.New()
		e := opened(t, d, small)
		for range r.IntN(5) {
			takes(t, e, someSpans(r, r.IntN(4))...)
			if r.IntN(3) == 0 {
				e.Checkpoint()
			}
		}
		names, _ := d.Names()
		for range 1 + r.IntN(3) {
			name := names[r.IntN(len(names))]
			size, _ := d.Size(name)
			switch r.IntN(4) {
			case 0:
				d.Cut(name, r.IntN(size+1))
			case 1:
				d.Remove(name)
			case 2:
				d.Rename(name, []string{"seg-0000000000", "seg-0000000001", "blk-00000000000000000001", "x"}[r.IntN(4)])
			case 3:
				d.Flip(name, r.IntN(size+1), byte(1+r.IntN(255)))
			}
		}
		e, rec, err := engine.Open(d, small)
		if err == nil {
			takes(t, e, someSpan(r))
			continue
		}
		if e != nil || rec != (api.Recovery{}) || !slices.Contains([]api.Errno{api.ErrVaultSpoilt, api.ErrJournalSpoilt, api.ErrEngineGap}, number(err)) {
			t.Fatal(rec, err)
		}
	}
}
