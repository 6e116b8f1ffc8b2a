package vault_test

import (
	"errors"
	"fmt"
	"math/rand/v2"
	"regexp"
	"slices"
	"strconv"
	"testing"

	"spoor/api"
	"spoor/batch"
	"spoor/disk"
	"spoor/frame"
	"spoor/span"
	"spoor/vault"
)

// A plain vault: what the chapter says, step by step, of everything anew.

// change is a change of a disk that the chapter names.
type change struct {
	kind, file, to string
	bytes          []byte
}

func (c change) on(d *disk.Disk) api.Errno {
	switch c.kind {
	case "create":
		return d.Create(c.file)
	case "append":
		return d.Append(c.file, c.bytes)
	case "rename":
		return d.Rename(c.file, c.to)
	case "remove":
		return d.Remove(c.file)
	case "sync":
		return d.Sync(c.file)
	}
	return d.SyncNames()
}

// do makes changes up to the first one that is refused; how many were made.
func do(d *disk.Disk, l []change) (int, api.Errno) {
	for i, c := range l {
		if e := c.on(d); e != api.OK {
			return i, e
		}
	}
	return len(l), api.OK
}

// blocks are the numbers of the blocks that a disk has, rising.
func blocks(d *disk.Disk) []uint64 {
	names, _ := d.Names()
	var l []uint64
	for _, n := range names {
		if !regexp.MustCompile(`^blk-[0-9]{20}$`).MatchString(n) {
			continue
		}
		if v, err := strconv.ParseUint(n[4:], 10, 64); err == nil {
			l = append(l, v)
		}
	}
	slices.Sort(l)
	return l
}

func hasTemp(d *disk.Disk) bool {
	names, _ := d.Names()
	return slices.Contains(names, "blk.tmp")
}

// saveChanges are those that Save makes of a block that may be.
func saveChanges(d *disk.Disk, b api.Block) []change {
	var l []change
	if hasTemp(d) {
		l = append(l, change{kind: "remove", file: "blk.tmp"})
	}
	return append(l, change{kind: "create", file: "blk.tmp"}, change{kind: "append", file: "blk.tmp", bytes: cut(b.Through, plainCut(b.Spans)...)},
		change{kind: "sync", file: "blk.tmp"}, change{kind: "rename", file: "blk.tmp", to: name(b.Through)}, change{kind: "names"})
}

func plainSave(d *disk.Disk, b api.Block) api.Errno {
	for i, s := range b.Spans {
		if e := span.Check(s); e != api.OK {
			return e
		}
		if i > 0 && !rises(b.Spans[i-1], s) {
			return api.ErrVaultOrder
		}
	}
	if d.Off() {
		return api.ErrDiskOff
	}
	_, e := do(d, saveChanges(d, b))
	return e
}

func rises(a, b api.Span) bool {
	if a.Trace.Hi != b.Trace.Hi {
		return a.Trace.Hi < b.Trace.Hi
	}
	if a.Trace.Lo != b.Trace.Lo {
		return a.Trace.Lo < b.Trace.Lo
	}
	return a.ID < b.ID
}

// cleanChanges are those that Clean makes.
func cleanChanges(d *disk.Disk) []change {
	var l []change
	if hasTemp(d) {
		l = append(l, change{kind: "remove", file: "blk.tmp"})
	}
	numbers := blocks(d)
	for i, n := range numbers {
		if i < len(numbers)-1 {
			l = append(l, change{kind: "remove", file: name(n)})
		}
	}
	if len(l) > 0 {
		l = append(l, change{kind: "names"})
	}
	return l
}

func plainClean(d *disk.Disk) (int, api.Errno) {
	if d.Off() {
		return 0, api.ErrDiskOff
	}
	n, e := do(d, cleanChanges(d))
	if e != api.OK {
		return 0, e
	}
	return max(n-1, 0), api.OK
}

// plainLoad tells what Load should.
func plainLoad(d *disk.Disk) (api.Block, *api.FileFault) {
	if d.Off() {
		return api.Block{}, &api.FileFault{Err: api.ErrDiskOff}
	}
	numbers := blocks(d)
	if len(numbers) == 0 {
		return api.Block{}, nil
	}
	through := slices.Max(numbers)
	size, _ := d.Size(name(through))
	b, _ := d.Read(name(through), 0, size)
	spans, at := plainTake(b, through)
	if at >= 0 {
		return api.Block{}, &api.FileFault{Name: name(through), At: at, Err: api.ErrVaultSpoilt}
	}
	return api.Block{Through: through, Spans: spans}, nil
}

// plainTake tells the spans of a block's bytes, or the place at which something is wrong (else -1).
func plainTake(b []byte, through uint64) ([]api.Span, int) {
	pieces, end, why := frame.Scan(b)
	if why != api.OK {
		return nil, end
	}
	number := func(p api.Piece, at int) uint64 {
		v, _ := strconv.ParseUint(fmt.Sprintf("%x", b[p.At+at:p.At+at+4]), 16, 64)
		return v
	}
	if len(pieces) == 0 {
		return nil, 0
	}
	head := pieces[0]
	if head.Kind != 3 || head.Seq != through || head.Length != 8 || number(head, 0) > 100000 {
		return nil, 0
	}
	n, m := number(head, 0), number(head, 4)
	var spans []api.Span
	for i, p := range pieces[1:] {
		begins := p.At - 24
		if uint64(i) > m {
			return nil, begins
		}
		if uint64(i) == m {
			if p.Kind != 5 || p.Seq != through || p.Length != 8 || number(p, 0) != n || n != uint64(len(spans)) || number(p, 4) != uint64(frame.Sum(b[:begins])) {
				return nil, begins
			}
			continue
		}
		l, err := batch.Decode(b[p.At : p.At+p.Length])
		if p.Kind != 4 || p.Seq != uint64(i) || err != nil || len(l) == 0 {
			return nil, begins
		}
		spans = append(spans, l...)
		for j := 1; j < len(spans); j++ {
			if !rises(spans[j-1], spans[j]) {
				return nil, begins
			}
		}
	}
	if uint64(len(pieces)) < m+2 {
		return nil, len(b)
	}
	return spans, -1
}

// alike: both disks have the same, and the same pending, whatever outlasts.
func alike(t *testing.T, what string, a, b *disk.Disk) {
	t.Helper()
	if a.Off() != b.Off() {
		t.Fatalf("%s: off: %v, not %v", what, a.Off(), b.Off())
	}
	k, l := a.Pending(), b.Pending()
	if k.Names != l.Names || !slices.Equal(k.Data, l.Data) {
		t.Fatalf("%s: pending: %v, not %v", what, k, l)
	}
	half := slices.Clone(k.Data)
	for i := range half {
		half[i] /= 2
	}
	keeps := []api.Keep{k, {}, {Names: k.Names}, {Names: k.Names, Data: half}}
	for n := range k.Names {
		keeps = append(keeps, api.Keep{Names: n, Data: k.Data})
	}
	for _, keep := range keeps {
		x, y := restarted(a, keep), restarted(b, keep)
		if got, want := contents(x), contents(y); got != want {
			t.Fatalf("%s, keeping %v: %q, not %q", what, keep, got, want)
		}
	}
	if x, y := stillArmed(a), stillArmed(b); !a.Off() && x != y {
		t.Fatalf("%s: armed with %d still, not %d", what, x, y)
	}
}

func restarted(d *disk.Disk, k api.Keep) *disk.Disk {
	c := d.Copy()
	c.Restart(k)
	return c
}

// loadsAlike holds Load against plainLoad.
func loadsAlike(t *testing.T, what string, d *disk.Disk) {
	t.Helper()
	want, fault := plainLoad(d)
	b, err := vault.Load(d)
	if fault == nil {
		if err != nil || !sameBlock(b, want) {
			t.Fatalf("Load, %s: %+v, %v; not %+v", what, b, err, want)
		}
		return
	}
	var f *api.FileFault
	if !errors.As(err, &f) || *f != *fault || b.Through != 0 || len(b.Spans) != 0 {
		t.Fatalf("Load, %s: %+v, %v; not %v", what, b, err, fault)
	}
}

// someSpans are a few spans that rise, of several traces.
func someSpans(r *rand.Rand) []api.Span {
	var l []api.Span
	trace := api.TraceID{Lo: 1}
	for id := api.SpanID(1); len(l) < 6 && r.IntN(5) > 0; id++ {
		switch r.IntN(5) {
		case 0:
			trace.Hi++
		case 1:
			trace.Lo++
		}
		if r.IntN(3) == 0 {
			l = append(l, richOne(trace, id))
		} else {
			l = append(l, plainAt(trace, id))
		}
	}
	return l
}

// someKeep is any part of what is pending.
func someKeep(r *rand.Rand, k api.Keep) api.Keep {
	k.Names = r.IntN(k.Names + 1)
	for i, n := range k.Data {
		k.Data[i] = r.IntN(n + 1)
	}
	return k
}

// Rows of calls, of changes that fail, of losses of power and of bits that are turned, on two disks: by the vault, and by the plain one.
func TestPlainVault(t *testing.T) {
	for seed := range uint64(1500) {
		r := rand.New(rand.NewPCG(201, seed))
		d := disk.New()
		e := disk.New()
		both := func(call func(d *disk.Disk)) { call(d); call(e) }
		for step := range 12 {
			what := fmt.Sprint("row ", seed, ", step ", step)
			switch r.IntN(9) {
			case 0, 1, 2:
				b := block(uint64(r.IntN(4))*1e10, someSpans(r)...)
				if r.IntN(10) == 0 && len(b.Spans) > 1 {
					b.Spans[0], b.Spans[1] = b.Spans[1], b.Spans[0]
				}
				if got, want := vault.Save(d, b), plainSave(e, b); got != want {
					t.Fatalf("%s: Save: %v, not %v", what, got, want)
				}
			case 3:
				n, got := vault.Clean(d)
				if m, want := plainClean(e); n != m || got != want {
					t.Fatalf("%s: Clean: %d, %v; not %d, %v", what, n, got, m, want)
				}
			case 4:
				n, how, units := r.IntN(8), api.How(r.IntN(2)), r.IntN(200)*r.IntN(2)
				both(func(d *disk.Disk) { d.Arm(n, how, units) })
			case 5:
				k := someKeep(r, d.Pending())
				both(func(d *disk.Disk) { d.Restart(k) })
			case 6:
				s := append(strangers, "blk.tmp", name(3), name(1e10))[r.IntN(len(strangers)+3)]
				both(func(d *disk.Disk) { d.Create(s); d.Append(s, []byte("x")) })
			case 7:
				if l := blocks(d); len(l) > 0 && r.IntN(3) == 0 {
					s := name(l[r.IntN(len(l))])
					n, _ := d.Size(s)
					at, by := r.IntN(n+1), byte(1+r.IntN(255))
					both(func(d *disk.Disk) { d.Flip(s, at, by) })
				}
			}
			alike(t, what, d, e)
			loadsAlike(t, what, d)
			alike(t, what+", behind Load", d, e)
		}
	}
}
