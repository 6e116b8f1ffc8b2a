package journal_test

import (
	"bytes"
	"encoding/binary"
	"fmt"
	"regexp"
	"slices"
	"strconv"
	"testing"

	"spoor/api"
	"spoor/disk"
	"spoor/frame"
	"spoor/journal"
)

// change is a change of a disk that the chapter names.
type change struct {
	kind, file string
	bytes      []byte
	n          int
}

func (c change) on(d *disk.Disk) api.Errno {
	switch c.kind {
	case "create":
		return d.Create(c.file)
	case "append":
		return d.Append(c.file, c.bytes)
	case "cut":
		return d.Cut(c.file, c.n)
	case "remove":
		return d.Remove(c.file)
	case "sync":
		return d.Sync(c.file)
	}
	return d.SyncNames()
}

// begun is the changes that make a new file.
func begun(number, first uint64) []change {
	return []change{
		{kind: "create", file: name(number)},
		{kind: "append", file: name(number), bytes: headed(number, first)},
		{kind: "sync", file: name(number)},
		{kind: "names"},
	}
}

// plainFile is a file with its records.
type plainFile struct {
	number, first uint64
	records       []string
}

func (f plainFile) next() uint64 { return f.first + uint64(len(f.records)) }

func (f plainFile) bytes() []byte { return segment(f.number, f.first, f.records...) }

// plain is a journal by the chapter's words, that knows its records by heart, and makes its changes from lists.
type plain struct {
	d       *disk.Disk
	size    int
	files   []plainFile
	flushed uint64
	broken  bool
}

var ownName = regexp.MustCompile(`^seg-([0-9]{10})$`)

// plainLook is the chapter's step 2, of the files' bytes by rising numbers: the files, but for a last one without a whole frame, and where the last one's whole frames end.
func plainLook(numbers []uint64, contents [][]byte) (files []plainFile, end int, fault *api.FileFault) {
	next := uint64(0)
	for i, number := range numbers {
		first, last := i == 0, i == len(numbers)-1
		spoilt := func(at int) ([]plainFile, int, *api.FileFault) {
			return nil, 0, &api.FileFault{Name: name(number), At: at, Err: api.ErrJournalSpoilt}
		}
		if !first && number != numbers[i-1]+1 {
			return spoilt(0)
		}
		b := contents[i]
		pieces, place, why := frame.Scan(b)
		if !last && why != api.OK {
			return spoilt(place)
		}
		if !last && len(pieces) == 0 {
			return spoilt(0)
		}
		f := plainFile{number: number}
		for n, p := range pieces {
			at, payload := p.At-24, b[p.At:p.At+p.Length]
			if n == 0 {
				if p.Kind != 1 || p.Seq != number || len(payload) != 8 {
					return spoilt(at)
				}
				f.first = binary.BigEndian.Uint64(payload)
				if first && f.first > 4611686018427387904 || !first && f.first != next {
					return spoilt(at)
				}
				next = f.first
				continue
			}
			if p.Kind != 2 || p.Seq != next {
				return spoilt(at)
			}
			f.records = append(f.records, string(payload))
			next++
		}
		if why != api.OK && why != api.ErrFrameTorn {
			return spoilt(place)
		}
		if len(pieces) == 0 && (!bytes.HasPrefix(headed(number, next), b) || first && number != 0) {
			return spoilt(0)
		}
		if len(pieces) > 0 {
			files = append(files, f)
		}
		end = place
	}
	return files, end, nil
}

// plainOpen is the chapter's Open, of a size that may be.
func plainOpen(d *disk.Disk, size int) (*plain, api.Recovery, *api.FileFault) {
	p := &plain{d: d, size: size}
	names, e := d.Names()
	if e != api.OK {
		return nil, api.Recovery{}, &api.FileFault{Err: e}
	}
	var numbers []uint64
	var contents [][]byte
	for _, n := range names {
		if m := ownName.FindStringSubmatch(n); m != nil {
			number, _ := strconv.ParseUint(m[1], 10, 64)
			long, _ := d.Size(n)
			b, _ := d.Read(n, 0, long)
			numbers, contents = append(numbers, number), append(contents, b)
		}
	}
	files, end, fault := plainLook(numbers, contents)
	if fault != nil {
		return nil, api.Recovery{}, fault
	}
	var changes []change
	torn := 0
	if len(files) < len(numbers) {
		changes = append(changes, change{kind: "remove", file: name(numbers[len(numbers)-1])}, change{kind: "names"})
		torn = len(contents[len(contents)-1])
	} else if len(files) > 0 && end < len(contents[len(contents)-1]) {
		torn = len(contents[len(contents)-1]) - end
		changes = append(changes, change{kind: "cut", file: name(numbers[len(numbers)-1]), n: end})
	}
	if len(files) == 0 {
		changes = append(changes, begun(0, 0)...)
		files = []plainFile{{}}
	} else {
		changes = append(changes, change{kind: "sync", file: name(files[len(files)-1].number)}, change{kind: "names"})
	}
	if f := p.do(changes); f != nil {
		return nil, api.Recovery{}, f
	}
	p.files = files
	p.flushed = p.next()
	return p, api.Recovery{Segments: len(files), First: files[0].first, Next: p.next(), Torn: torn}, nil
}

// do makes changes up to the first one that is refused.
func (p *plain) do(changes []change) *api.FileFault {
	for _, c := range changes {
		if e := c.on(p.d); e != api.OK {
			return &api.FileFault{Name: c.file, Err: e}
		}
	}
	return nil
}

func (p *plain) last() *plainFile { return &p.files[len(p.files)-1] }

func (p *plain) next() uint64 { return p.last().next() }

func (p *plain) refuse(e api.Errno) api.Errno {
	p.broken = true
	return e
}

func (p *plain) append(payload []byte) (uint64, api.Errno) {
	if p.broken {
		return 0, api.ErrJournalBroken
	}
	if len(payload) > 1048576 {
		return 0, api.ErrFrameLong
	}
	number, l := p.next(), p.last()
	if len(l.records) > 0 && l.number != 9999999999 && len(l.bytes())+24+len(payload) > p.size {
		if f := p.do([]change{{kind: "sync", file: name(l.number)}}); f != nil {
			return 0, p.refuse(f.Err)
		}
		p.flushed = number
		if f := p.do(begun(l.number+1, number)); f != nil {
			return 0, p.refuse(f.Err)
		}
		p.files = append(p.files, plainFile{number: l.number + 1, first: number})
		l = p.last()
	}
	if f := p.do([]change{{kind: "append", file: name(l.number), bytes: framed(2, number, string(payload))}}); f != nil {
		return 0, p.refuse(f.Err)
	}
	l.records = append(l.records, string(payload))
	return number, api.OK
}

func (p *plain) flush() api.Errno {
	if p.broken {
		return api.ErrJournalBroken
	}
	if f := p.do([]change{{kind: "sync", file: name(p.last().number)}}); f != nil {
		return p.refuse(f.Err)
	}
	p.flushed = p.next()
	return api.OK
}

func (p *plain) drop(below uint64) (int, api.Errno) {
	if p.broken {
		return 0, api.ErrJournalBroken
	}
	n := 0
	for len(p.files) > 1 {
		f := p.files[0]
		if slices.ContainsFunc(f.numbers(), func(x uint64) bool { return x >= below }) {
			break
		}
		if f := p.do([]change{{kind: "remove", file: name(f.number)}}); f != nil {
			return 0, p.refuse(f.Err)
		}
		p.files = p.files[1:]
		n++
	}
	if n > 0 {
		if f := p.do([]change{{kind: "names"}}); f != nil {
			return 0, p.refuse(f.Err)
		}
	}
	return n, api.OK
}

func (f plainFile) numbers() []uint64 {
	var l []uint64
	for i := range f.records {
		l = append(l, f.first+uint64(i))
	}
	return l
}

func (p *plain) read(number uint64) (string, api.Errno) {
	for _, f := range p.files {
		if i := slices.Index(f.numbers(), number); i >= 0 {
			if _, e := p.d.Size(name(f.number)); e != api.OK {
				return "", e
			}
			return f.records[i], api.OK
		}
	}
	return "", api.ErrJournalNone
}

func (p *plain) segments() []api.Segment {
	var l []api.Segment
	for _, f := range p.files {
		l = append(l, api.Segment{Number: f.number, First: f.first, Count: len(f.records), Size: len(f.bytes())})
	}
	return l
}

// told is what Records tells, as a text.
func (p *plain) told(from uint64) string {
	s := ""
	for n := max(from, p.files[0].first); ; n++ {
		b, e := p.read(n)
		if e != api.OK {
			return s
		}
		if s != "" {
			s += ", "
		}
		s += fmt.Sprint(n, " ", b)
	}
}

// holds: journal and plain journal answer alike what they are asked.
func (p *plain) holds(t *testing.T, j *journal.Journal) {
	t.Helper()
	stands(t, j, p.next(), p.flushed, p.segments()...)
	from, to := p.files[0].first, p.next()
	for n := from - min(from, 2); n < to+2; n++ {
		want, wantErr := p.read(n)
		if b, e := j.Read(n); string(b) != want || e != wantErr {
			t.Fatalf("Read(%d): %q, %d; not %q, %d", n, b, e, want, wantErr)
		}
		tells(t, j, n, p.told(n))
	}
}

// opens holds Open against plainOpen, on two disks that are alike.
func opens(t *testing.T, what string, d, e *disk.Disk, size int) (*journal.Journal, *plain) {
	t.Helper()
	p, want, fault := plainOpen(e, size)
	j, r, err := journal.Open(d, size)
	if fault == nil && (err != nil || r != want || j == nil) {
		t.Fatalf("Open of %s: %+v, %v; not %+v", what, r, err, want)
	}
	if fault != nil {
		f, is := err.(*api.FileFault)
		if !is || *f != *fault || j != nil || r != (api.Recovery{}) {
			t.Fatalf("Open of %s: %+v, %v; not %v", what, r, err, fault)
		}
	}
	alike(t, what, d, e)
	return j, p
}

// alike: both disks have the same, and had the same pending, whatever outlasts.
func alike(t *testing.T, what string, a, b *disk.Disk) {
	t.Helper()
	if a.Off() != b.Off() {
		t.Fatalf("%s: off: %v, not %v", what, a.Off(), b.Off())
	}
	k, l := a.Pending(), b.Pending()
	if k.Names != l.Names || !slices.Equal(k.Data, l.Data) {
		t.Fatalf("%s: pending: %v, not %v", what, k, l)
	}
	keeps := []api.Keep{k, {}, {Names: k.Names}, {Names: k.Names / 2, Data: k.Data}}
	for n := range k.Names {
		keeps = append(keeps, api.Keep{Names: n, Data: k.Data})
	}
	half := slices.Clone(k.Data)
	for i := range half {
		half[i] /= 2
	}
	keeps = append(keeps, api.Keep{Names: k.Names, Data: half})
	for _, keep := range keeps {
		x, y := a.Copy(), b.Copy()
		x.Restart(keep)
		y.Restart(keep)
		if got, want := contents(x), contents(y); got != want {
			t.Fatalf("%s, keeping %v: %q, not %q", what, keep, got, want)
		}
	}
}

// contents is all names and bytes of a disk that is on.
func contents(d *disk.Disk) string {
	var s bytes.Buffer
	names, _ := d.Names()
	for _, n := range names {
		size, _ := d.Size(n)
		b, _ := d.Read(n, 0, size)
		fmt.Fprintf(&s, "%s: %x\n", n, b)
	}
	return s.String()
}
