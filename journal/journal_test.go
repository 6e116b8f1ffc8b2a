package journal_test

import (
	"bytes"
	"encoding/binary"
	"errors"
	"fmt"
	"math"
	"slices"
	"strings"
	"testing"

	"spoor/api"
	"spoor/disk"
	"spoor/frame"
	"spoor/journal"
)

// name is that of a journal's file.
func name(number uint64) string { return fmt.Sprintf("seg-%010d", number) }

// framed is a frame that Make must not refuse.
func framed(kind int, seq uint64, payload string) []byte {
	b, e := frame.Make(kind, seq, []byte(payload))
	if e != api.OK {
		panic(e)
	}
	return b
}

// headed is a file's head.
func headed(number, first uint64) []byte {
	return framed(1, number, string(binary.BigEndian.AppendUint64(nil, first)))
}

// segment is a file's bytes: its head, and its records.
func segment(number, first uint64, records ...string) []byte {
	b := headed(number, first)
	for i, r := range records {
		b = append(b, framed(2, first+uint64(i), r)...)
	}
	return b
}

// lay makes a file that lasts, of whatever bytes.
func lay(t *testing.T, d *disk.Disk, file string, b []byte) {
	t.Helper()
	for _, e := range []api.Errno{d.Create(file), d.Append(file, b), d.Sync(file), d.SyncNames()} {
		if e != api.OK {
			t.Fatal(file, e)
		}
	}
}

// opened is a journal that Open must not refuse.
func opened(t *testing.T, d *disk.Disk, size int, want api.Recovery) *journal.Journal {
	t.Helper()
	j, r, err := journal.Open(d, size)
	if j == nil || err != nil || r != want {
		t.Fatalf("Open with %d: %+v, %v; not %+v", size, r, err, want)
	}
	return j
}

// refuses holds Open's error against what it should be.
func refuses(t *testing.T, what string, d *disk.Disk, size int, want api.FileFault) {
	t.Helper()
	j, r, err := journal.Open(d, size)
	f, is := err.(*api.FileFault)
	if j != nil || r != (api.Recovery{}) || !is || f == nil || *f != want {
		t.Errorf("Open of %s: %v, %+v, %v; not %v", what, j != nil, r, err, &want)
		return
	}
	var asked *api.FileFault
	if !errors.Is(err, want.Err) || !errors.As(err, &asked) || *asked != want {
		t.Errorf("Open of %s: neither errors.Is nor errors.As find %v", what, err)
	}
}

// adds holds an Append that must be OK.
func adds(t *testing.T, j *journal.Journal, payload string, want uint64) {
	t.Helper()
	if n, e := j.Append([]byte(payload)); n != want || e != api.OK {
		t.Fatalf("Append of %q: %d, %d; not %d", payload, n, e, want)
	}
}

// addRefused holds an Append that must not be.
func addRefused(t *testing.T, j *journal.Journal, payload string, want api.Errno) {
	t.Helper()
	if n, e := j.Append([]byte(payload)); n != 0 || e != want {
		t.Errorf("Append of %d bytes: %d, %d; not 0, %d", len(payload), n, e, want)
	}
}

// flushes holds a Flush.
func flushes(t *testing.T, j *journal.Journal, want api.Errno) {
	t.Helper()
	if e := j.Flush(); e != want {
		t.Errorf("Flush: %d, not %d", e, want)
	}
}

// drops holds a Drop.
func drops(t *testing.T, j *journal.Journal, below uint64, want int, wantErr api.Errno) {
	t.Helper()
	if n, e := j.Drop(below); n != want || e != wantErr {
		t.Errorf("Drop(%d): %d, %d; not %d, %d", below, n, e, want, wantErr)
	}
}

// reads holds a Read that must be OK.
func reads(t *testing.T, j *journal.Journal, number uint64, want string) {
	t.Helper()
	if b, e := j.Read(number); string(b) != want || e != api.OK {
		t.Errorf("Read(%d): %q, %d; not %q", number, b, e, want)
	}
}

// readRefused holds a Read that must not be.
func readRefused(t *testing.T, j *journal.Journal, number uint64, want api.Errno) {
	t.Helper()
	if b, e := j.Read(number); len(b) != 0 || e != want {
		t.Errorf("Read(%d): %q, %d; not %d", number, b, e, want)
	}
}

// stands holds Next, Flushed and Segments.
func stands(t *testing.T, j *journal.Journal, next, flushed uint64, files ...api.Segment) {
	t.Helper()
	if j.Next() != next || j.Flushed() != flushed {
		t.Errorf("Next %d, Flushed %d; not %d, %d", j.Next(), j.Flushed(), next, flushed)
	}
	if l := j.Segments(); !slices.Equal(l, files) {
		t.Errorf("Segments: %v; not %v", l, files)
	}
}

// told is what Records tells, as a text: `0 abc, 1 de`.
func told(j *journal.Journal, from uint64) string {
	var l []string
	for n, b := range j.Records(from) {
		l = append(l, fmt.Sprint(n, " ", string(b)))
	}
	return strings.Join(l, ", ")
}

// tells holds what Records tells.
func tells(t *testing.T, j *journal.Journal, from uint64, want string) {
	t.Helper()
	if got := told(j, from); got != want {
		t.Errorf("Records(%d): %q; not %q", from, got, want)
	}
}

// sized is the files of a disk with their sizes, as a text: `a:1 b:2`.
func sized(t *testing.T, d *disk.Disk) string {
	t.Helper()
	var l []string
	names, e := d.Names()
	for _, n := range names {
		size, _ := d.Size(n)
		l = append(l, fmt.Sprint(n, ":", size))
	}
	if e != api.OK {
		t.Fatal(e)
	}
	return strings.Join(l, " ")
}

// has holds a file's bytes.
func has(t *testing.T, d *disk.Disk, file string, want []byte) {
	t.Helper()
	n, _ := d.Size(file)
	if b, e := d.Read(file, 0, n); e != api.OK || !bytes.Equal(b, want) {
		t.Errorf("%s has % x, %d; not % x", file, b, e, want)
	}
}

// The chapter's examples 1 and 2.
func TestExamplesOfFiles(t *testing.T) {
	d := disk.New()
	j := opened(t, d, 64, api.Recovery{Segments: 1})
	adds(t, j, "abc", 0)
	if s := sized(t, d); s != "seg-0000000000:59" {
		t.Error(s)
	}
	adds(t, j, "de", 1)
	stands(t, j, 2, 1, api.Segment{Count: 1, Size: 59}, api.Segment{Number: 1, First: 1, Count: 1, Size: 58})
	if s := sized(t, d); s != "seg-0000000000:59 seg-0000000001:58" {
		t.Error(s)
	}
	has(t, d, name(0), segment(0, 0, "abc"))
	has(t, d, name(1), segment(1, 1, "de"))

	d.Restart(api.Keep{})
	j = opened(t, d, 64, api.Recovery{Segments: 2, Next: 1})
	adds(t, j, "gh", 1)
	if s := sized(t, d); s != "seg-0000000000:59 seg-0000000001:58" {
		t.Error(s)
	}
	flushes(t, j, api.OK)
	drops(t, j, 1, 1, api.OK)
	stands(t, j, 2, 2, api.Segment{Number: 1, First: 1, Count: 1, Size: 58})
	readRefused(t, j, 0, api.ErrJournalNone)
	reads(t, j, 1, "gh")
}

// The chapter's example 3.
func TestExampleOfATornEnd(t *testing.T) {
	d := disk.New()
	j := opened(t, d, 64, api.Recovery{Segments: 1})
	d.Arm(1, api.Stop, 10)
	addRefused(t, j, "abc", api.ErrDiskOff)
	addRefused(t, j, "abc", api.ErrJournalBroken)
	d.Restart(api.Keep{Data: []int{7}})
	j = opened(t, d, 64, api.Recovery{Segments: 1, Torn: 7})
	stands(t, j, 0, 0, api.Segment{Size: 32})
	tells(t, j, 0, "")
	has(t, d, name(0), headed(0, 0))
}

// The chapter's example 4.
func TestExampleOfATornHead(t *testing.T) {
	d := disk.New()
	j := opened(t, d, 64, api.Recovery{Segments: 1})
	adds(t, j, "abc", 0)
	lay(t, d, name(1), headed(1, 1)[:31])
	j = opened(t, d, 64, api.Recovery{Segments: 1, Next: 1, Torn: 31})
	if s := sized(t, d); s != "seg-0000000000:59" {
		t.Error(s)
	}
	reads(t, j, 0, "abc")

	lay(t, d, name(1), headed(1, 2))
	refuses(t, "a head of another record", d, 64, api.FileFault{Name: name(1), Err: api.ErrJournalSpoilt})
	if s := sized(t, d); s != "seg-0000000000:59 seg-0000000001:32" {
		t.Error(s)
	}
}

// The chapter's example 5, and the bounds of a size; which is asked ahead of the disk.
func TestOpenOfWhatMayNotBe(t *testing.T) {
	arg := api.FileFault{Err: api.ErrArg}
	refuses(t, "no disk", nil, 64, arg)
	refuses(t, "no disk, and no size", nil, 0, arg)
	d := disk.New()
	off := disk.New()
	off.Arm(1, api.Stop, 0)
	off.SyncNames()
	for _, size := range []int{math.MinInt, -64, 0, 63, 16777217, math.MaxInt} {
		refuses(t, fmt.Sprint("size ", size), d, size, arg)
		refuses(t, fmt.Sprint("a disk that is off, size ", size), off, size, arg)
	}
	if s := sized(t, d); s != "" {
		t.Error("an Open that was refused has made", s)
	}
	refuses(t, "a disk that is off", off, 64, api.FileFault{Err: api.ErrDiskOff})
	opened(t, d, 64, api.Recovery{Segments: 1})
	opened(t, d, 16777216, api.Recovery{Segments: 1})
}

// A file is full when the next record would make it longer than the size, by one byte; a file without records is not, however long the record.
func TestAppendGoesOn(t *testing.T) {
	for _, c := range []struct {
		size    int
		lengths []int
		files   string
	}{
		{64, []int{0, 0}, "seg-0000000000:56 seg-0000000001:56"},
		{80, []int{0, 0}, "seg-0000000000:80"},
		{79, []int{0, 0}, "seg-0000000000:56 seg-0000000001:56"},
		{80, []int{0, 1}, "seg-0000000000:56 seg-0000000001:57"},
		{80, []int{1, 0}, "seg-0000000000:57 seg-0000000001:56"},
		{104, []int{0, 0, 0}, "seg-0000000000:104"},
		{103, []int{0, 0, 0}, "seg-0000000000:80 seg-0000000001:56"},
		{64, []int{500, 0}, "seg-0000000000:556 seg-0000000001:56"},
		{64, []int{0, 500}, "seg-0000000000:56 seg-0000000001:556"},
		{1000, []int{900, 20}, "seg-0000000000:1000"},
		{1000, []int{900, 21}, "seg-0000000000:956 seg-0000000001:77"},
		{16777216, []int{1 << 20, 0}, "seg-0000000000:1048656"},
		{1048656, []int{1 << 20, 0}, "seg-0000000000:1048656"},
		{1048655, []int{1 << 20, 0}, "seg-0000000000:1048632 seg-0000000001:56"},
	} {
		d := disk.New()
		j := opened(t, d, c.size, api.Recovery{Segments: 1})
		for i, n := range c.lengths {
			adds(t, j, strings.Repeat("x", n), uint64(i))
		}
		if s := sized(t, d); s != c.files {
			t.Errorf("size %d, records of %v: %s; not %s", c.size, c.lengths, s, c.files)
		}
		j = opened(t, d, c.size, api.Recovery{Segments: strings.Count(c.files, "seg"), Next: uint64(len(c.lengths))})
		for i, n := range c.lengths {
			reads(t, j, uint64(i), strings.Repeat("x", n))
		}
	}
}

// What a file had when the journal was opened counts; so does the size of this Open, not that of an earlier one.
func TestAppendGoesOnBehindOpen(t *testing.T) {
	d := disk.New()
	j := opened(t, d, 200, api.Recovery{Segments: 1})
	adds(t, j, "abc", 0)
	adds(t, j, "def", 1)
	j = opened(t, d, 112, api.Recovery{Segments: 1, Next: 2})
	adds(t, j, "gh", 2) // 86 and 26
	j = opened(t, d, 64, api.Recovery{Segments: 1, Next: 3})
	adds(t, j, "", 3)
	stands(t, j, 4, 3, api.Segment{Count: 3, Size: 112}, api.Segment{Number: 1, First: 3, Count: 1, Size: 56})
	tells(t, j, 0, "0 abc, 1 def, 2 gh, 3 ")
}

// Behind the file of the last number there is none: it takes all.
func TestLastNumber(t *testing.T) {
	d := disk.New()
	lay(t, d, name(9999999998), segment(9999999998, 7, "a"))
	j := opened(t, d, 64, api.Recovery{Segments: 1, First: 7, Next: 8})
	for i := range uint64(5) {
		adds(t, j, "bcdefghij", 8+i)
	}
	stands(t, j, 13, 8,
		api.Segment{Number: 9999999998, First: 7, Count: 1, Size: 57},
		api.Segment{Number: 9999999999, First: 8, Count: 5, Size: 197})
	if s := sized(t, d); s != "seg-9999999998:57 seg-9999999999:197" {
		t.Error(s)
	}
	opened(t, d, 64, api.Recovery{Segments: 2, First: 7, Next: 13})
}

// A payload has at most 1048576 bytes; a longer one is refused without a change, and the journal stays whole.
func TestAppendTooLong(t *testing.T) {
	d := disk.New()
	j := opened(t, d, 64, api.Recovery{Segments: 1})
	long := strings.Repeat("x", 1048577)
	d.Arm(1, api.Fail, 0)
	addRefused(t, j, long, api.ErrFrameLong)
	stands(t, j, 0, 0, api.Segment{Size: 32})
	addRefused(t, j, long[1:], api.ErrDiskFail)
	addRefused(t, j, long, api.ErrJournalBroken)
	if s := sized(t, d); s != "seg-0000000000:32" {
		t.Error(s)
	}
	j = opened(t, d, 64, api.Recovery{Segments: 1})
	adds(t, j, long[1:], 0)
	reads(t, j, 0, long[1:])
	addRefused(t, j, long, api.ErrFrameLong)
	adds(t, j, "a", 1)
	stands(t, j, 2, 1, api.Segment{Count: 1, Size: 1048632}, api.Segment{Number: 1, First: 1, Count: 1, Size: 57})
}

// Flushed: as the journal was opened, flushed, or gone on in another file, whichever was later.
func TestFlushed(t *testing.T) {
	d := disk.New()
	j := opened(t, d, 90, api.Recovery{Segments: 1})
	flushed := func(next, want uint64) {
		t.Helper()
		if j.Next() != next || j.Flushed() != want {
			t.Errorf("Next %d, Flushed %d; not %d, %d", j.Next(), j.Flushed(), next, want)
		}
	}
	flushed(0, 0)
	adds(t, j, "a", 0)
	flushed(1, 0)
	flushes(t, j, api.OK)
	flushed(1, 1)
	adds(t, j, "b", 1)
	flushed(2, 1)
	adds(t, j, "c", 2) // goes on
	flushed(3, 2)
	drops(t, j, 2, 1, api.OK)
	flushed(3, 2)
	flushes(t, j, api.OK)
	flushes(t, j, api.OK)
	flushed(3, 3)
	adds(t, j, "d", 3)
	flushed(4, 3)
	j = opened(t, d, 90, api.Recovery{Segments: 1, First: 2, Next: 4})
	flushed(4, 4)
}

// Read: numbers on either side of what there is, records without bytes, files that were dropped, a disk that is off.
func TestRead(t *testing.T) {
	d := disk.New()
	j := opened(t, d, 90, api.Recovery{Segments: 1})
	for _, number := range []uint64{0, 1, math.MaxUint64} {
		readRefused(t, j, number, api.ErrJournalNone)
	}
	payloads := []string{"", "abc", "", "de", strings.Repeat("x", 300), "f"}
	for i, p := range payloads {
		adds(t, j, p, uint64(i))
	}
	for range 2 {
		for i, p := range payloads {
			reads(t, j, uint64(i), p)
		}
		for _, number := range []uint64{6, 7, 1 << 32, math.MaxUint64} {
			readRefused(t, j, number, api.ErrJournalNone)
		}
		j = opened(t, d, 90, api.Recovery{Segments: 4, Next: 6})
	}
	stands(t, j, 6, 6, api.Segment{Count: 2, Size: 83}, api.Segment{Number: 1, First: 2, Count: 2, Size: 82},
		api.Segment{Number: 2, First: 4, Count: 1, Size: 356}, api.Segment{Number: 3, First: 5, Count: 1, Size: 57})
	drops(t, j, 4, 2, api.OK)
	for _, number := range []uint64{0, 3, 6} {
		readRefused(t, j, number, api.ErrJournalNone)
	}
	reads(t, j, 4, payloads[4])
	d.Arm(1, api.Stop, 0)
	flushes(t, j, api.ErrDiskOff)
	readRefused(t, j, 4, api.ErrDiskOff)
	readRefused(t, j, 3, api.ErrJournalNone)
	readRefused(t, j, 6, api.ErrJournalNone)
	tells(t, j, 0, "")
}

// A record without bytes is asked of the disk, too.
func TestReadOfNothing(t *testing.T) {
	d := disk.New()
	j := opened(t, d, 64, api.Recovery{Segments: 1})
	adds(t, j, "", 0)
	reads(t, j, 0, "")
	d.Arm(1, api.Stop, 0)
	d.SyncNames()
	readRefused(t, j, 0, api.ErrDiskOff)
	tells(t, j, 0, "")
}

// Records: from each number on; the first one there is, if it is asked from below.
func TestRecords(t *testing.T) {
	d := disk.New()
	j := opened(t, d, 90, api.Recovery{Segments: 1})
	tells(t, j, 0, "")
	for i, p := range []string{"a", "b", "c", "", "e"} {
		adds(t, j, p, uint64(i))
	}
	tells(t, j, 0, "0 a, 1 b, 2 c, 3 , 4 e")
	tells(t, j, 1, "1 b, 2 c, 3 , 4 e")
	tells(t, j, 4, "4 e")
	tells(t, j, 5, "")
	tells(t, j, math.MaxUint64, "")
	drops(t, j, 3, 1, api.OK)
	tells(t, j, 0, "2 c, 3 , 4 e")
	tells(t, j, 2, "2 c, 3 , 4 e")
	tells(t, j, 3, "3 , 4 e")
}

// What an iterator tells is what there was when Records was called, however often it is ranged over, within its own loop, too (P6).
func TestRecordsIsOfThen(t *testing.T) {
	d := disk.New()
	j := opened(t, d, 90, api.Recovery{Segments: 1})
	none := j.Records(0)
	for i, p := range []string{"a", "b", "c"} {
		adds(t, j, p, uint64(i))
	}
	all, two := j.Records(0), j.Records(1)
	adds(t, j, "d", 3)
	adds(t, j, "e", 4)
	drops(t, j, 4, 2, api.OK)
	d.Arm(1, api.Stop, 0)
	flushes(t, j, api.ErrDiskOff)
	gone := j.Records(0)
	d.Restart(api.Keep{})
	for range 2 {
		got := ""
		for n, b := range all {
			got += fmt.Sprint(n, string(b))
			for m, c := range all {
				if m > 1 {
					break
				}
				got += fmt.Sprint(" ", m, string(c))
			}
			got += ";"
		}
		if got != "0a 0a 1b;1b 0a 1b;2c 0a 1b;" {
			t.Error(got)
		}
		for n, b := range two {
			if n != 1 || string(b) != "b" {
				t.Error(n, b)
			}
			break
		}
		for n := range none {
			t.Error(n, "of a journal that had no records")
		}
		for n := range gone {
			t.Error(n, "of a disk that was off")
		}
	}
}

// A loop that is left, by whatever way, is not gone on with.
func TestRecordsLeft(t *testing.T) {
	d := disk.New()
	j := opened(t, d, 64, api.Recovery{Segments: 1})
	for i := range uint64(4) {
		adds(t, j, "a", i)
	}
	calls := 0
	j.Records(0)(func(n uint64, _ []byte) bool {
		calls++
		return n < 2
	})
	if calls != 3 {
		t.Error(calls, "calls")
	}
}

// Drop: up to the first file that has a record from the number on, but never the last one.
func TestDrop(t *testing.T) {
	for _, c := range []struct {
		below uint64
		files string
		n     int
	}{
		{0, "0 2 4 6", 0}, {1, "0 2 4 6", 0}, {2, "2 4 6", 1}, {3, "2 4 6", 1}, {4, "4 6", 2},
		{5, "4 6", 2}, {6, "6", 3}, {7, "6", 3}, {8, "6", 3}, {9, "6", 3}, {math.MaxUint64, "6", 3},
	} {
		d := disk.New()
		j := opened(t, d, 90, api.Recovery{Segments: 1})
		for i := range uint64(7) {
			adds(t, j, fmt.Sprint(i), i)
		}
		drops(t, j, c.below, c.n, api.OK)
		var firsts []string
		for _, s := range j.Segments() {
			firsts = append(firsts, fmt.Sprint(s.First))
		}
		if got := strings.Join(firsts, " "); got != c.files {
			t.Errorf("Drop(%d): files from %s; not %s", c.below, got, c.files)
		}
		first := j.Segments()[0].First
		for i := range uint64(7) {
			if i < first {
				readRefused(t, j, i, api.ErrJournalNone)
			} else {
				reads(t, j, i, fmt.Sprint(i))
			}
		}
		drops(t, j, c.below, 0, api.OK)
		if j.Next() != 7 {
			t.Error("Next is", j.Next())
		}
		adds(t, j, "7", 7)
		adds(t, j, "8", 8)
		d.Restart(api.Keep{}) // what was dropped stays dropped
		opened(t, d, 90, api.Recovery{Segments: len(firsts) + 1, First: first, Next: 8})
	}
}

// Files without records go, unless they are the last one, whatever is asked for; but not behind one that stays.
func TestDropWithoutRecords(t *testing.T) {
	lays := func() *disk.Disk {
		d := disk.New()
		lay(t, d, name(3), segment(3, 5))
		lay(t, d, name(4), segment(4, 5))
		lay(t, d, name(5), segment(5, 5, "a", "b"))
		lay(t, d, name(6), segment(6, 7))
		lay(t, d, name(7), segment(7, 7, "c"))
		lay(t, d, name(8), segment(8, 8))
		return d
	}
	for _, c := range []struct {
		below       uint64
		n           int
		left, tells string
	}{
		{0, 2, "5 6 7 8", "5 a, 6 b, 7 c"},
		{6, 2, "5 6 7 8", "5 a, 6 b, 7 c"},
		{7, 4, "7 8", "7 c"},
		{8, 5, "8", ""},
		{9, 5, "8", ""},
	} {
		j := opened(t, lays(), 64, api.Recovery{Segments: 6, First: 5, Next: 8})
		tells(t, j, 0, "5 a, 6 b, 7 c")
		reads(t, j, 5, "a")
		reads(t, j, 7, "c")
		readRefused(t, j, 4, api.ErrJournalNone)
		readRefused(t, j, 8, api.ErrJournalNone)
		drops(t, j, c.below, c.n, api.OK)
		var l []string
		for _, s := range j.Segments() {
			l = append(l, fmt.Sprint(s.Number))
		}
		if got := strings.Join(l, " "); got != c.left {
			t.Errorf("Drop(%d): files %s; not %s", c.below, got, c.left)
		}
		tells(t, j, 0, c.tells)
		adds(t, j, "d", 8)
	}
}

// All other names are no business of a journal.
func TestOtherNames(t *testing.T) {
	d := disk.New()
	others := []string{"seg-", "seg-000000000", "seg-00000000000", "seg-000000000a", "seg-a000000000", "seg-00000000.1",
		"seg-000000000-", "seg.0000000000", "seh-0000000000", "sef-0000000009", "0000000000", "xseg-0000000000",
		"seg-0000000000.", "seg--000000001", "seg", "blk.tmp", "blk-00000000000000000002", "seg-0000000000-seg-0000000000"}
	for _, n := range others {
		lay(t, d, n, []byte("of "+n))
	}
	j := opened(t, d, 64, api.Recovery{Segments: 1})
	for i := range uint64(3) {
		adds(t, j, "a", i)
	}
	drops(t, j, 2, 2, api.OK)
	opened(t, d, 64, api.Recovery{Segments: 1, First: 2, Next: 3})
	for _, n := range others {
		has(t, d, n, []byte("of "+n))
	}
	names, _ := d.Names()
	want := slices.Sorted(slices.Values(append(slices.Clone(others), name(2))))
	if !slices.Equal(names, want) {
		t.Error(names)
	}
}

// Journals on disks that have nothing in common have nothing to do with one another (P4).
func TestTwoJournals(t *testing.T) {
	d := disk.New()
	j := opened(t, d, 64, api.Recovery{Segments: 1})
	adds(t, j, "a", 0)
	e := d.Copy()
	k := opened(t, e, 64, api.Recovery{Segments: 1, Next: 1})
	adds(t, j, "b", 1)
	adds(t, k, "c", 1)
	adds(t, k, "d", 2)
	d.Arm(1, api.Stop, 0)
	flushes(t, j, api.ErrDiskOff)
	tells(t, k, 0, "0 a, 1 c, 2 d")
	flushes(t, k, api.OK)
	drops(t, k, 1, 1, api.OK)
	d.Restart(d.Pending())
	j = opened(t, d, 64, api.Recovery{Segments: 2, Next: 2})
	tells(t, j, 0, "0 a, 1 b")
}
