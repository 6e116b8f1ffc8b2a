package engine_test

import (
	"encoding/hex"
	"errors"
	"strings"
	"testing"

	"spoor/api"
	"spoor/disk"
	"spoor/engine"
	"spoor/halt"
)

// The chapter's examples, and those of the whole that do not ask for the console's forms.

func fromHex(t *testing.T, s string) []byte {
	t.Helper()
	b, err := hex.DecodeString(strings.ReplaceAll(s, " ", ""))
	if err != nil {
		t.Fatal(err)
	}
	return b
}

func TestExampleOpen(t *testing.T) {
	e, r, err := engine.Open(disk.New(), api.Config{Segment: 64, Fan: 2, Workers: 1})
	if err != nil || r != (api.Recovery{Segments: 1}) || e.Sick() {
		t.Fatal(r, err)
	}
	for _, x := range [][2]string{{"0b", "00 00 00 00 00"}, {"", "ea 01"}, {"0e", "ea 01"}, {"0b 00", "ea 01"}, {"01 00 07", "e9 01"}} {
		says(t, e, "an empty engine", fromHex(t, x[0]), fromHex(t, x[1]))
	}
}

func TestExampleIngest(t *testing.T) {
	e := opened(t, disk.New(), small)
	_, err := e.Ingest([]byte{0, 0, 0})
	refused(t, "no batch", err, 3, &api.Fault{At: 0, Err: api.ErrBatchHead})
}

func TestExampleSearch(t *testing.T) {
	e := opened(t, disk.New(), small)
	takes(t, e, one(7, 1, 0, "a", 0, 10), one(7, 2, 1, "b", 2, 6), one(7, 3, 1, "c", 4, 9))
	for _, x := range []struct {
		budget, left, hits int
		err                api.Errno
	}{{3, 0, 0, api.ErrHaltBudget}, {4, 0, 3, api.OK}} {
		stop, _ := halt.New(x.budget)
		l, n := e.Search(parsed(t, `{}`), stop)
		if len(l) != x.hits || n != x.err || stop.Left() != x.left {
			t.Error(x, l, n, stop.Left())
		}
	}
}

func TestExampleSick(t *testing.T) {
	d := disk.New()
	e := opened(t, d, small)
	b := coded(t, one(7, 1, 0, "a", 0, 10))
	d.Arm(1, api.Fail, 0)
	_, err := e.Ingest(b)
	refused(t, "a disk that fails", err, len(b), api.ErrDiskFail)
	if !e.Sick() {
		t.Error("not sick")
	}
	_, err = e.Ingest(b)
	refused(t, "a sick engine", err, len(b), api.ErrEngineSick)
	says(t, e, "a sick engine", laid(11), laid(0, 0, 0, 0, 0))
}

// refused holds the error of an Ingest against a number, or a fault.
func refused(t *testing.T, what string, err error, size int, want error) {
	t.Helper()
	r, is := err.(*api.Reject)
	if !is || r.Bytes != size {
		t.Fatalf("%s: %v", what, err)
	}
	var got, place *api.Fault
	if errors.As(want, &place) {
		if got, is = r.Err.(*api.Fault); !is || *got != *place {
			t.Fatalf("%s: %v, not %v", what, r.Err, want)
		}
	} else if r.Err != want {
		t.Fatalf("%s: %v, not %v", what, r.Err, want)
	}
	if !errors.Is(err, number(want)) {
		t.Fatalf("%s: %v is not found", what, want)
	}
}

func number(err error) api.Errno {
	var n api.Errno
	errors.As(err, &n)
	return n
}

// The ten examples of the whole.
func TestExamplesOfTheWhole(t *testing.T) {
	d := disk.New()
	e, r, err := engine.Open(d, small)
	if err != nil || r != (api.Recovery{Segments: 1}) {
		t.Fatal(r, err)
	}
	says(t, e, "1", laid(11), laid(0, 0, 0, int64(0), int64(0)))
	web, db, log := one(7, 1, 0, "web", 0, 100), one(7, 2, 1, "db", 10, 60), one(7, 3, 1, "log", 40, 90)
	web.Op, db.Op, log.Op = "get", "query", "write"
	x := coded(t, web, db, log)
	if len(x) != 124 {
		t.Fatal(len(x))
	}
	if a := takes(t, e, web, db, log); a != (api.Ack{Fresh: 3}) {
		t.Fatal(a)
	}
	ok(t, "2", e.Flush())
	z := func(l ...int64) []byte { // numbers that may be below 0
		var b []byte
		for _, v := range l {
			b = append(b, laid(v)...)
		}
		return b
	}
	says(t, e, "3", laid(2, lo(7)), laid(0, 3, 1, 0, 1, 1, 0, z(0, 100), 2, 1, 0, 1, 1, z(10, 60), 3, 1, 0, 1, 1, z(40, 90)))
	says(t, e, "4, path", laid(4, lo(7), 1), laid(0, 4, 1, z(0, 10), 2, z(10, 40), 3, z(40, 90), 1, z(90, 100)))
	says(t, e, "4, own", laid(3, lo(7)), laid(0, 3, 1, 100, 20, 20, 2, 50, 50, 30, 3, 50, 50, 50))
	both := laid(2, "web", "db", 1, 0, 50, 50, 50, 50, 50, 50, 50, "web", "log", 1, 0, 50, 50, 50, 50, 50, 50, 50)
	says(t, e, "5", laid(7, z(0, 1)), laid(0, both))
	says(t, e, "5, windows", laid(9, z(0, 3)), laid(0, 2, z(0, 2), both, z(2, 1), 0))
	says(t, e, "6", laid(12, `{service = "db"}`, 0), laid(0, 1, 0, 7, 2))
	says(t, e, "6, by 2", laid(12, `{service = "db"}`, 2), laid(api.ErrHaltBudget))
	says(t, e, "6, by 4", laid(12, `{service = "db"}`, 4), laid(0, 1, 0, 7, 2))
	says(t, e, "6, no query", laid(12, `{a}`, 0), laid(163, 1))
	db.Parent, db.End, db.Status = 9, 70, api.Failed
	y := coded(t, db)
	if w, n := e.Watch(parsed(t, `{status = failed}`), 5); w != 0 || n != api.OK || len(y) != 56 {
		t.Fatal(w, n, len(y))
	}
	if a := takes(t, e, db); a != (api.Ack{Record: 1, Better: 1}) {
		t.Fatal(a)
	}
	took(t, e, 0, 9, 0, api.Hit{Trace: lo(7), ID: 2})
	says(t, e, "7", laid(2, lo(7)), laid(0, 3, 1, 0, 1, 1, 0, z(0, 100), 3, 1, 0, 1, 1, z(40, 90), 2, 0, 2, 2, 0, z(10, 70)))
	says(t, e, "7, deps", laid(7, z(0, 1)), laid(0, 1, "web", "log", 1, 0, 50, 50, 50, 50, 50, 50, 50))
	if s := sized(t, d); s != "seg-0000000000:180 seg-0000000001:112" {
		t.Fatal(s)
	}
	d.Restart(api.Keep{Data: []int{0, 30}})
	e, r, err = engine.Open(d, small)
	if err != nil || r != (api.Recovery{Segments: 2, Next: 1, Torn: 30}) {
		t.Fatal(r, err)
	}
	if a := takes(t, e, db); a != (api.Ack{Record: 1, Better: 1}) {
		t.Fatal(a)
	}
	ok(t, "9", e.Checkpoint())
	if s := sized(t, d); s != "blk-00000000000000000002:212 seg-0000000001:112" {
		t.Fatal(s)
	}
	d.Restart(api.Keep{})
	e, r, err = engine.Open(d, api.Config{Segment: 64, Fan: 2, Workers: 1})
	if err != nil || r != (api.Recovery{Segments: 1, First: 1, Next: 2}) {
		t.Fatal(r, err)
	}
	says(t, e, "9, stats", laid(11), laid(0, 3, 1, z(0, 1)))
	x[0] = 0
	_, err = e.Ingest(x)
	refused(t, "10", err, 124, &api.Fault{Err: api.ErrBatchHead})
	d.Flip("blk-00000000000000000002", 30, 1)
	_, _, err = engine.Open(d, small)
	if f, is := err.(*api.FileFault); !is || *f != (api.FileFault{Name: "blk-00000000000000000002", Err: api.ErrVaultSpoilt}) {
		t.Fatal(err)
	}
}

func took(t *testing.T, e *engine.Engine, w, most, lost int, want ...api.Hit) {
	t.Helper()
	l, n, err := e.Take(w, most)
	if err != api.OK || n != lost || !same(l, want) {
		t.Fatalf("Take(%d, %d): %v, %d, %v; not %v, %d", w, most, l, n, err, want, lost)
	}
}
