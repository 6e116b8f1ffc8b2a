package vault_test

import (
	"bytes"
	"encoding/binary"
	"errors"
	"fmt"
	"math"
	"reflect"
	"slices"
	"strings"
	"testing"

	"spoor/api"
	"spoor/batch"
	"spoor/disk"
	"spoor/frame"
	"spoor/span"
	"spoor/vault"
)

// name is that of a block's file.
func name(through uint64) string { return fmt.Sprintf("blk-%020d", through) }

// plainOne is a small span of the trace 0/7.
func plainOne(id api.SpanID) api.Span {
	return api.Span{Trace: api.TraceID{Lo: 7}, ID: id, Service: "a", Op: "b", Start: 5, End: 9}
}

func with(s api.Span, turn func(s *api.Span)) api.Span {
	turn(&s)
	return s
}

// richOne has something in each of its fields.
func richOne(trace api.TraceID, id api.SpanID) api.Span {
	return api.Span{
		Trace: trace, ID: id, Parent: 3, Links: []api.SpanID{1<<63 + 1, 1<<63 + 9}, Service: "web", Op: "get ö", Kind: api.Client, Status: api.Failed,
		Start: 1 << 40, End: 1<<40 + 77,
		Attrs:  []api.Attr{{Key: "k", Value: api.Value{Kind: api.Int, Int: -3}}, {Key: "l", Value: api.Value{Text: "x"}}, {Key: "m", Value: api.Value{Kind: api.Bool, Int: 1}}},
		Events: []api.Event{{At: 1, Name: "e"}, {At: 1, Name: "f"}},
	}
}

// ones are small spans of rising IDs.
func ones(ids ...api.SpanID) []api.Span {
	var l []api.Span
	for _, id := range ids {
		l = append(l, plainOne(id))
	}
	return l
}

// several are so many small spans.
func several(n int) []api.Span {
	var l []api.Span
	for i := range n {
		l = append(l, plainOne(api.SpanID(i+1)))
	}
	return l
}

func block(through uint64, l ...api.Span) api.Block { return api.Block{Through: through, Spans: l} }

// framed is a frame that Make must not refuse.
func framed(kind int, seq uint64, payload []byte) []byte {
	b, e := frame.Make(kind, seq, payload)
	if e != api.OK {
		panic(e)
	}
	return b
}

func batched(l ...api.Span) []byte {
	b, err := batch.Encode(l)
	if err != nil {
		panic(err)
	}
	return b
}

// two are two numbers of four bytes.
func two(a, b uint32) []byte {
	return binary.BigEndian.AppendUint32(binary.BigEndian.AppendUint32(nil, a), b)
}

// footed is frames with a right foot behind them.
func footed(through uint64, spans uint32, ahead ...[]byte) []byte {
	b := bytes.Join(ahead, nil)
	return append(b, framed(5, through, two(spans, frame.Sum(b)))...)
}

// cut is a block's bytes, whose spans are cut into these chunks.
func cut(through uint64, chunks ...[]api.Span) []byte {
	n := 0
	var l [][]byte
	for i, c := range chunks {
		n += len(c)
		l = append(l, framed(4, uint64(i), batched(c...)))
	}
	head := framed(3, through, two(uint32(n), uint32(len(chunks))))
	return footed(through, uint32(n), append([][]byte{head}, l...)...)
}

// lay makes a file that lasts, of whatever bytes.
func lay(t *testing.T, d *disk.Disk, file string, b []byte) {
	t.Helper()
	for _, e := range []api.Errno{d.Create(file), d.Append(file, b), d.Sync(file), d.SyncNames()} {
		if e != api.OK {
			t.Fatal(file, e)
		}
	}
}

func contentOf(t *testing.T, d *disk.Disk, file string) []byte {
	t.Helper()
	n, e := d.Size(file)
	b, f := d.Read(file, 0, n)
	if e != api.OK || f != api.OK {
		t.Fatal(file, e, f)
	}
	return b
}

// contents is all names and bytes of a disk that is on.
func contents(d *disk.Disk) string {
	var s strings.Builder
	names, _ := d.Names()
	for _, n := range names {
		size, _ := d.Size(n)
		b, _ := d.Read(n, 0, size)
		fmt.Fprintf(&s, "%s: %d: ", n, size)
		s.Write(b)
	}
	return s.String()
}

func sameBlock(a, b api.Block) bool {
	return a.Through == b.Through && slices.EqualFunc(a.Spans, b.Spans, span.Equal)
}

func saves(t *testing.T, d *disk.Disk, b api.Block) {
	t.Helper()
	if e := vault.Save(d, b); e != api.OK {
		t.Fatalf("Save of %d, %d spans: %v", b.Through, len(b.Spans), e)
	}
}

// tells holds what Load tells against what it should.
func tells(t *testing.T, what string, d *disk.Disk, want api.Block) {
	t.Helper()
	b, err := vault.Load(d)
	if err != nil || !sameBlock(b, want) {
		t.Fatalf("Load of %s: %+v, %v; not %+v", what, b, err, want)
	}
}

// refuses holds Load's error against what it should be.
func refuses(t *testing.T, what string, d *disk.Disk, want api.FileFault) {
	t.Helper()
	b, err := vault.Load(d)
	f, is := err.(*api.FileFault)
	if !is || f == nil || *f != want || b.Through != 0 || len(b.Spans) != 0 {
		t.Errorf("Load of %s: %+v, %v; not %v", what, b, err, &want)
		return
	}
	var asked *api.FileFault
	if !errors.Is(err, want.Err) || !errors.As(err, &asked) || *asked != want {
		t.Errorf("Load of %s: neither errors.Is nor errors.As find %v", what, err)
	}
}

func cleans(t *testing.T, what string, d *disk.Disk, want int, wantErr api.Errno) {
	t.Helper()
	if n, e := vault.Clean(d); n != want || e != wantErr {
		t.Errorf("Clean of %s: %d, %v; not %d, %v", what, n, e, want, wantErr)
	}
}

// stillArmed is how many changes a disk is armed with, up to 20.
func stillArmed(d *disk.Disk) int {
	c := d.Copy()
	for n := 1; n < 20; n++ {
		if c.SyncNames() != api.OK {
			return n
		}
	}
	return 0
}

// unchanged calls something that must make no change of the disk at all.
func unchanged(t *testing.T, what string, d *disk.Disk, call func()) {
	t.Helper()
	d.Arm(1, api.Fail, 0)
	before, pending := contents(d), d.Pending()
	call()
	if contents(d) != before || !reflect.DeepEqual(d.Pending(), pending) || stillArmed(d) != 1 {
		t.Errorf("%s: the disk was changed", what)
	}
	d.Arm(0, api.Fail, 0)
}

// The chapter's examples.

func TestExampleOfBytes(t *testing.T) {
	d := disk.New()
	s := plainOne(1)
	saves(t, d, block(5, s))
	if l, e := d.Names(); e != api.OK || !slices.Equal(l, []string{"blk-00000000000000000005"}) {
		t.Fatal(l, e)
	}
	b := contentOf(t, d, "blk-00000000000000000005")
	if len(b) != 139 || len(batched(s)) != 51 || !bytes.Equal(b[56:107], batched(s)) {
		t.Fatalf("%d bytes: % x", len(b), b)
	}
	want := "SPR\x03" + "\x00\x00\x00\x00\x00\x00\x00\x05" + "\x00\x00\x00\x08"
	if string(b[:16]) != want || string(b[24:32]) != "\x00\x00\x00\x01\x00\x00\x00\x01" {
		t.Errorf("the head is % x", b[:32])
	}
	pieces, end, why := frame.Scan(b)
	if end != 139 || why != api.OK || !slices.Equal(pieces, []api.Piece{{Kind: 3, Seq: 5, At: 24, Length: 8}, {Kind: 4, Seq: 0, At: 56, Length: 51}, {Kind: 5, Seq: 5, At: 131, Length: 8}}) {
		t.Errorf("%v, %d, %v", pieces, end, why)
	}
	if !bytes.Equal(b[131:], two(1, frame.Sum(b[:107]))) {
		t.Errorf("the foot says % x", b[131:])
	}
	tells(t, "S", d, block(5, s))
}

func TestExampleOfNothing(t *testing.T) {
	d := disk.New()
	tells(t, "a disk without blocks", d, api.Block{})
	saves(t, d, api.Block{})
	b := contentOf(t, d, "blk-00000000000000000000")
	pieces, _, why := frame.Scan(b)
	if len(b) != 64 || len(pieces) != 2 || why != api.OK {
		t.Errorf("% x", b)
	}
	tells(t, "a block of nothing", d, api.Block{})
}

func TestExampleOfOrder(t *testing.T) {
	d := disk.New()
	if e := vault.Save(d, block(1, ones(2, 1)...)); e != api.ErrVaultOrder {
		t.Error(e)
	}
	if e := vault.Save(d, block(1, ones(2, 0)...)); e != api.ErrSpanID {
		t.Error(e)
	}
	if e := vault.Save(nil, block(1)); e != api.ErrArg {
		t.Error(e)
	}
}

func TestExampleOfPower(t *testing.T) {
	elder, newer := block(1, ones(1)...), block(2, ones(1, 2)...)
	for units := range 2 {
		for kept := range 3 {
			d := disk.New()
			saves(t, d, elder)
			d.Arm(4, api.Stop, units)
			if e := vault.Save(d, newer); e != api.ErrDiskOff {
				t.Fatal(e)
			}
			d.Restart(api.Keep{Names: kept})
			want := elder
			if units == 1 && kept == 2 {
				want = newer
			}
			tells(t, fmt.Sprint(units, " done, ", kept, " kept"), d, want)
		}
	}
}

func TestExampleOfClean(t *testing.T) {
	d := disk.New()
	saves(t, d, block(1, ones(1)...))
	saves(t, d, block(2, ones(2)...))
	lay(t, d, "blk.tmp", []byte("x"))
	lay(t, d, "blk-2", []byte("y"))
	cleans(t, "the example", d, 2, api.OK)
	if l, _ := d.Names(); !slices.Equal(l, []string{name(2), "blk-2"}) {
		t.Error(l)
	}
	tells(t, "what was cleaned", d, block(2, ones(2)...))
	d.Flip(name(2), 40, 1)
	refuses(t, "a turned bit", d, api.FileFault{Name: name(2), At: 32, Err: api.ErrVaultSpoilt})
}

// Wrong arguments.

func TestNoDisk(t *testing.T) {
	many := make([]api.Span, api.MaxSpans+1)
	for _, b := range []api.Block{{}, block(1, ones(2, 1)...), block(1, ones(0)...), {Spans: many}} {
		if e := vault.Save(nil, b); e != api.ErrArg {
			t.Error(e)
		}
	}
	refuses(t, "no disk", nil, api.FileFault{Err: api.ErrArg})
	cleans(t, "no disk", nil, 0, api.ErrArg)
}

// Of the first span of which something is wrong, what Check says ahead of the order.
func TestSaveRefuses(t *testing.T) {
	bad := func(turn func(s *api.Span)) api.Span { return with(plainOne(5), turn) }
	late := with(plainOne(1), func(s *api.Span) { s.End = 10 })
	for _, c := range []struct {
		what string
		l    []api.Span
		want api.Errno
	}{
		{"ID", []api.Span{bad(func(s *api.Span) { s.ID = 0 })}, api.ErrSpanID},
		{"trace", []api.Span{bad(func(s *api.Span) { s.Trace = api.TraceID{} })}, api.ErrSpanID},
		{"time", []api.Span{bad(func(s *api.Span) { s.End = 4 })}, api.ErrSpanTime},
		{"name", []api.Span{bad(func(s *api.Span) { s.Service = "" })}, api.ErrSpanName},
		{"kind", []api.Span{bad(func(s *api.Span) { s.Kind = 5 })}, api.ErrSpanKind},
		{"links", []api.Span{bad(func(s *api.Span) { s.Links = []api.SpanID{5} })}, api.ErrSpanLinks},
		{"attributes", []api.Span{bad(func(s *api.Span) { s.Attrs = []api.Attr{{}} })}, api.ErrSpanAttrs},
		{"events", []api.Span{bad(func(s *api.Span) { s.Events = []api.Event{{}} })}, api.ErrSpanEvents},
		{"the second one", append(ones(1), bad(func(s *api.Span) { s.Kind = 5 })), api.ErrSpanKind},
		{"falling IDs", ones(2, 1), api.ErrVaultOrder},
		{"one name", ones(1, 1), api.ErrVaultOrder},
		{"one name, of which the second one is greater", []api.Span{plainOne(1), late}, api.ErrVaultOrder},
		{"one name, of which the second one is lesser", []api.Span{late, plainOne(1)}, api.ErrVaultOrder},
		{"a falling Hi", []api.Span{richOne(api.TraceID{Hi: 2, Lo: 1}, 1), richOne(api.TraceID{Hi: 1, Lo: 2}, 2)}, api.ErrVaultOrder},
		{"a falling Lo", []api.Span{richOne(api.TraceID{Hi: 1, Lo: 2}, 1), richOne(api.TraceID{Hi: 1, Lo: 1}, 2)}, api.ErrVaultOrder},
		{"an ID of all bits ahead", ones(math.MaxUint64, 1), api.ErrVaultOrder},
		{"a Hi of all bits ahead", []api.Span{richOne(api.TraceID{Hi: math.MaxUint64}, 1), richOne(api.TraceID{Hi: 1}, 1)}, api.ErrVaultOrder},
		{"a Lo of all bits ahead", []api.Span{richOne(api.TraceID{Lo: math.MaxUint64}, 1), richOne(api.TraceID{Lo: 1}, 1)}, api.ErrVaultOrder},
		{"both wrong in one", append(ones(9), bad(func(s *api.Span) { s.Op = "" })), api.ErrSpanName},
		{"the order first", append(ones(9, 8), bad(func(s *api.Span) { s.Op = "" })), api.ErrVaultOrder},
		{"Check first", []api.Span{plainOne(7), bad(func(s *api.Span) { s.ID, s.Op = 8, "" }), plainOne(2)}, api.ErrSpanName},
		{"the order in a later chunk", append(several(700), plainOne(3)), api.ErrVaultOrder},
		{"the order between chunks", append(several(500), plainOne(500)), api.ErrVaultOrder},
		{"a bad one in a later chunk", append(several(700), bad(func(s *api.Span) { s.ID, s.Status = 701, 3 })), api.ErrSpanKind},
	} {
		d := disk.New()
		saves(t, d, block(3, ones(4)...))
		lay(t, d, "blk.tmp", []byte("x"))
		unchanged(t, c.what, d, func() {
			if e := vault.Save(d, block(3, c.l...)); e != c.want {
				t.Errorf("Save, %s: %v, not %v", c.what, e, c.want)
			}
		})
		d.Arm(1, api.Stop, 0)
		d.SyncNames()
		if e := vault.Save(d, block(3, c.l...)); e != c.want {
			t.Errorf("Save, %s, the power off: %v, not %v", c.what, e, c.want)
		}
	}
}

// What rises by Hi, then by Lo, then by ID may be, whatever else falls.
func TestSaveTakesWhatRises(t *testing.T) {
	l := []api.Span{
		plainOne(1), plainOne(2), plainOne(math.MaxUint64),
		richOne(api.TraceID{Lo: 8}, 1), richOne(api.TraceID{Lo: math.MaxUint64}, 1),
		richOne(api.TraceID{Hi: 1}, 1), richOne(api.TraceID{Hi: 1, Lo: 3}, 1), plainAt(api.TraceID{Hi: 1, Lo: 3}, 2),
		plainAt(api.TraceID{Hi: math.MaxUint64, Lo: 0}, 5), plainAt(api.TraceID{Hi: math.MaxUint64, Lo: math.MaxUint64}, math.MaxUint64),
	}
	for i := range l {
		for j := range len(l) + 1 {
			if i <= j {
				d := disk.New()
				saves(t, d, block(9, l[i:j]...))
				tells(t, fmt.Sprint(i, " to ", j), d, block(9, l[i:j]...))
			}
		}
	}
}

func plainAt(trace api.TraceID, id api.SpanID) api.Span {
	return with(plainOne(id), func(s *api.Span) { s.Trace = trace })
}

// 100000 spans may be, one more not, whatever it is.
func TestMostSpans(t *testing.T) {
	l := several(api.MaxSpans + 1)
	d := disk.New()
	saves(t, d, block(77, l[:api.MaxSpans]...))
	tells(t, "the most spans", d, block(77, l[:api.MaxSpans]...))
	b := contentOf(t, d, name(77))
	if !bytes.Equal(b[24:32], two(100000, 200)) {
		t.Errorf("the head says % x", b[24:32])
	}
	unchanged(t, "too many", d, func() {
		for _, i := range []int{-1, 0, api.MaxSpans} {
			if i >= 0 {
				l[i].ID = 0
			}
			if e := vault.Save(d, block(78, l...)); e != api.ErrStoreFull {
				t.Error(e)
			}
		}
	})
}

// While the power is off, nothing is done and nothing told.
func TestPowerOff(t *testing.T) {
	d := disk.New()
	saves(t, d, block(1, ones(1)...))
	d.Arm(1, api.Stop, 0)
	d.SyncNames()
	if e := vault.Save(d, block(2, ones(1)...)); e != api.ErrDiskOff {
		t.Error(e)
	}
	refuses(t, "a disk that is off", d, api.FileFault{Err: api.ErrDiskOff})
	cleans(t, "a disk that is off", d, 0, api.ErrDiskOff)
	d.Restart(api.Keep{})
	tells(t, "a disk that is on again", d, block(1, ones(1)...))
	empty := disk.New()
	empty.Arm(1, api.Stop, 0)
	empty.SyncNames()
	refuses(t, "an empty disk that is off", empty, api.FileFault{Err: api.ErrDiskOff})
	cleans(t, "an empty disk that is off", empty, 0, api.ErrDiskOff)
}

// strangers are names that are no blocks'.
var strangers = []string{
	"blk-", "blk-2", "blk-0000000000000000005", "blk-000000000000000000009", "blk-0000000000000000000a", "blk--0000000000000000009",
	"blk-18446744073709551616", "blk-18446744073709551620", "blk-20000000000000000000", "blk-99999999999999999999", "blk-0000000000.000000009",
	"blk.00000000000000000009", "blk00000000000000000009", "xblk-00000000000000000009", "blk-00000000000000000009.", "blk-00000000000000000009.tmp",
	"blk-0x000000000000000009", "seg-0000000000", "blk.tmp2", "blk.tm", "ablk.tmp", "00000000000000000009", "blk-------------------------",
}

// Names of other forms are no business of a vault: Load and Clean pass them by, and Save lets them be.
func TestStrangers(t *testing.T) {
	d := disk.New()
	for _, s := range strangers {
		lay(t, d, s, cut(9, ones(9)))
	}
	tells(t, "strangers", d, api.Block{})
	unchanged(t, "Clean of strangers", d, func() { cleans(t, "strangers", d, 0, api.OK) })
	before := contents(d)
	saves(t, d, block(4, ones(4)...))
	tells(t, "strangers and a block", d, block(4, ones(4)...))
	saves(t, d, block(8, ones(8)...))
	cleans(t, "strangers and two blocks", d, 1, api.OK)
	tells(t, "strangers and two blocks", d, block(8, ones(8)...))
	d.Remove(name(8))
	if contents(d) != before {
		t.Error("strangers were changed")
	}
}

// Load tells the block of the greatest number, whatever else there is, and changes nothing.
func TestNewest(t *testing.T) {
	numbers := []uint64{0, 1, 9, 10, 99, 1 << 32, 1<<63 - 1, 1 << 63, 1<<64 - 2, 1<<64 - 1}
	up, down := disk.New(), disk.New()
	for i, n := range numbers {
		saves(t, up, block(n, ones(api.SpanID(i+1))...))
		tells(t, "rising numbers", up, block(n, ones(api.SpanID(i+1))...))
		last := len(numbers) - 1
		saves(t, down, block(numbers[last-i], ones(api.SpanID(i+1))...))
		tells(t, "falling numbers", down, block(numbers[last], ones(1)...))
	}
	for _, d := range []*disk.Disk{up, down} {
		unchanged(t, "Load", d, func() { vault.Load(d) })
		newest := name(1<<64 - 1)
		if newest != "blk-18446744073709551615" {
			t.Fatal(newest)
		}
		whole := contentOf(t, d, newest)
		cleans(t, "many blocks", d, len(numbers)-1, api.OK)
		if l, _ := d.Names(); !slices.Equal(l, []string{newest}) || !bytes.Equal(contentOf(t, d, newest), whole) {
			t.Error(l)
		}
	}
}

// Elder blocks are not looked at, not even where the newest one is spoilt; Clean asks of none whether it is.
func TestOnlyTheNewest(t *testing.T) {
	d := disk.New()
	saves(t, d, block(1, ones(1)...))
	saves(t, d, block(2, ones(2)...))
	d.Flip(name(1), 3, 1)
	tells(t, "an elder block that is spoilt", d, block(2, ones(2)...))
	d.Flip(name(1), 3, 1)
	d.Flip(name(2), 3, 1)
	refuses(t, "a newest block that is spoilt", d, api.FileFault{Name: name(2), Err: api.ErrVaultSpoilt})
	cleans(t, "a newest block that is spoilt", d, 1, api.OK)
	if l, _ := d.Names(); !slices.Equal(l, []string{name(2)}) {
		t.Error(l)
	}
	refuses(t, "a newest block that is spoilt", d, api.FileFault{Name: name(2), Err: api.ErrVaultSpoilt})
	saves(t, d, block(2, ones(3)...))
	tells(t, "a block in the spoilt one's place", d, block(2, ones(3)...))
}

// A file that was being written is not looked at, whatever it has.
func TestUnfinished(t *testing.T) {
	for _, b := range [][]byte{nil, []byte("x"), cut(9, ones(9)), cut(9, ones(9))[:50]} {
		d := disk.New()
		lay(t, d, "blk.tmp", b)
		tells(t, "an unfinished block", d, api.Block{})
		saves(t, d, block(3, ones(3)...))
		if l, _ := d.Names(); !slices.Equal(l, []string{name(3)}) {
			t.Error(l)
		}
		tells(t, "an unfinished block, and another one", d, block(3, ones(3)...))
		lay(t, d, "blk.tmp", b)
		tells(t, "a block, and an unfinished one", d, block(3, ones(3)...))
		cleans(t, "an unfinished block", d, 1, api.OK)
		cleans(t, "what was cleaned", d, 0, api.OK)
	}
}
