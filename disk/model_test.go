package disk_test

import (
	"fmt"
	"maps"
	"math/rand/v2"
	"slices"
	"strings"
	"testing"

	"spoor/api"
	"spoor/disk"
)

// A plain disk does what the chapter says, word for word: it keeps what lasts and the steps, and does all steps anew whenever it is asked. Bytes are pointers, so that a byte is one wherever it is seen.
type plain struct {
	lastNames map[string]int
	nameSteps []plainStep
	lastBytes [][]*byte
	fileSteps [][]plainStep
	off       bool
	changes   int
	how       api.How
	units     int
}

type plainStep struct {
	kind     string
	from, to string
	number   int
	bytes    []*byte
}

func newPlain() *plain { return &plain{lastNames: map[string]int{}} }

// namesBehind: the lasting names with the first n steps done.
func (p *plain) namesBehind(n int) map[string]int {
	m := maps.Clone(p.lastNames)
	for _, s := range p.nameSteps[:n] {
		switch s.kind {
		case "create":
			m[s.from] = s.number
		case "rename":
			number := m[s.from]
			delete(m, s.from)
			m[s.to] = number
		case "remove":
			delete(m, s.from)
		}
	}
	return m
}

func (p *plain) names() map[string]int { return p.namesBehind(len(p.nameSteps)) }

// gone: no beginning of the steps leaves it a name.
func (p *plain) gone(number int) bool {
	for n := range len(p.nameSteps) + 1 {
		for _, x := range p.namesBehind(n) {
			if x == number {
				return false
			}
		}
	}
	return true
}

// bytesBehind: a file's lasting bytes with the first units of its steps done, one unit behind the other.
func (p *plain) bytesBehind(number, units int) []*byte {
	l := slices.Clone(p.lastBytes[number])
	for _, s := range p.fileSteps[number] {
		if s.kind == "cut" {
			if units <= 0 {
				return l
			}
			l = l[:s.number]
			units--
			continue
		}
		for _, b := range s.bytes {
			if units <= 0 {
				return l
			}
			l = append(l, b)
			units--
		}
	}
	return l
}

func (p *plain) unitsOf(number int) int {
	n := 0
	for _, s := range p.fileSteps[number] {
		if s.kind == "cut" {
			n++
		} else {
			n += len(s.bytes)
		}
	}
	return n
}

func (p *plain) bytes(number int) []*byte { return p.bytesBehind(number, p.unitsOf(number)) }

// check: the errors of a call of a name; there: it must be.
func (p *plain) check(name string, there bool) api.Errno {
	if p.off {
		return api.ErrDiskOff
	}
	if len(name) < 1 || len(name) > 40 || strings.Trim(name, "abcdefghijklmnopqrstuvwxyz0123456789-.") != "" {
		return api.ErrDiskName
	}
	if _, is := p.names()[name]; there && !is {
		return api.ErrDiskNone
	}
	return api.OK
}

// change: does a change wholly, or by units, as the disk is armed.
func (p *plain) change(do func(units int)) api.Errno {
	if p.changes == 0 {
		do(1 << 30)
		return api.OK
	}
	p.changes--
	if p.changes > 0 {
		do(1 << 30)
		return api.OK
	}
	if p.units > 0 {
		do(p.units)
	}
	if p.how == api.Fail {
		return api.ErrDiskFail
	}
	p.off = true
	return api.ErrDiskOff
}

func (p *plain) create(name string) api.Errno {
	if e := p.check(name, false); e != api.OK {
		return e
	}
	if _, is := p.names()[name]; is {
		return api.ErrDiskThere
	}
	return p.change(func(int) {
		p.nameSteps = append(p.nameSteps, plainStep{kind: "create", from: name, number: len(p.lastBytes)})
		p.lastBytes = append(p.lastBytes, nil)
		p.fileSteps = append(p.fileSteps, nil)
	})
}

func (p *plain) append(name string, b []byte) api.Errno {
	if e := p.check(name, true); e != api.OK {
		return e
	}
	number := p.names()[name]
	return p.change(func(units int) {
		var l []*byte
		for _, c := range b[:min(units, len(b))] {
			l = append(l, &c)
		}
		if len(l) > 0 {
			p.fileSteps[number] = append(p.fileSteps[number], plainStep{kind: "append", bytes: l})
		}
	})
}

func (p *plain) cut(name string, n int) api.Errno {
	if e := p.check(name, true); e != api.OK {
		return e
	}
	number := p.names()[name]
	if n < 0 || n > len(p.bytes(number)) {
		return api.ErrDiskRange
	}
	return p.change(func(int) {
		p.fileSteps[number] = append(p.fileSteps[number], plainStep{kind: "cut", number: n})
	})
}

func (p *plain) rename(from, to string) api.Errno {
	for _, name := range []string{from, to} {
		if e := p.check(name, false); e != api.OK {
			return e
		}
	}
	if e := p.check(from, true); e != api.OK {
		return e
	}
	return p.change(func(int) {
		if from != to {
			p.nameSteps = append(p.nameSteps, plainStep{kind: "rename", from: from, to: to})
		}
	})
}

func (p *plain) remove(name string) api.Errno {
	if e := p.check(name, true); e != api.OK {
		return e
	}
	return p.change(func(int) {
		p.nameSteps = append(p.nameSteps, plainStep{kind: "remove", from: name})
	})
}

func (p *plain) sync(name string) api.Errno {
	if e := p.check(name, true); e != api.OK {
		return e
	}
	number := p.names()[name]
	return p.change(func(int) {
		p.lastBytes[number] = p.bytes(number)
		p.fileSteps[number] = nil
	})
}

func (p *plain) syncNames() api.Errno {
	if p.off {
		return api.ErrDiskOff
	}
	return p.change(func(int) {
		p.lastNames = p.names()
		p.nameSteps = nil
	})
}

func (p *plain) arm(n int, how api.How, units int) api.Errno {
	if p.off {
		return api.ErrDiskOff
	}
	if n < 0 || units < 0 || how < 0 || how > 1 {
		return api.ErrArg
	}
	p.changes, p.how, p.units = n, how, units
	return api.OK
}

func (p *plain) flip(name string, at int, by byte) api.Errno {
	if e := p.check(name, true); e != api.OK {
		return e
	}
	l := p.bytes(p.names()[name])
	if at < 0 || at > len(l)-1 {
		return api.ErrDiskRange
	}
	*l[at] ^= by
	return api.OK
}

func (p *plain) pending() api.Keep {
	k := api.Keep{Names: len(p.nameSteps)}
	for number := range p.lastBytes {
		n := p.unitsOf(number)
		if p.gone(number) {
			n = 0
		}
		k.Data = append(k.Data, n)
	}
	return k
}

func (p *plain) restart(k api.Keep) {
	for number := range p.lastBytes {
		units := 0
		if number < len(k.Data) && !p.gone(number) {
			units = k.Data[number]
		}
		p.lastBytes[number] = p.bytesBehind(number, units)
		p.fileSteps[number] = nil
	}
	p.lastNames = p.namesBehind(min(max(k.Names, 0), len(p.nameSteps)))
	p.nameSteps = nil
	p.off, p.changes = false, 0
}

// all: as the function of that name.
func (p *plain) all() string {
	if p.off {
		return api.ErrDiskOff.Error()
	}
	names := p.names()
	var out []string
	for _, name := range slices.Sorted(maps.Keys(names)) {
		text := name + "="
		for _, b := range p.bytes(names[name]) {
			text += string([]byte{*b})
		}
		out = append(out, text)
	}
	return strings.Join(out, " ")
}

// A call: done with a disk, and with a plain one.
type call struct {
	what string
	disk func(d *disk.Disk) api.Errno
	way  func(p *plain) api.Errno
}

// aName: mostly one of three, so that they meet.
func aName(r *rand.Rand) string {
	if r.IntN(30) == 0 {
		return []string{"", "A", "a b", strings.Repeat("a", 41)}[r.IntN(4)]
	}
	return []string{"a", "b", "c"}[r.IntN(3)]
}

// aKeep: more and less than there may be.
func aKeep(r *rand.Rand) api.Keep {
	k := api.Keep{Names: r.IntN(8) - 1}
	for range r.IntN(8) {
		k.Data = append(k.Data, r.IntN(14)-1)
	}
	return k
}

func aCall(r *rand.Rand) call {
	name, to := aName(r), aName(r)
	n := r.IntN(9) - 1
	b := make([]byte, r.IntN(5))
	for i := range b {
		b[i] = byte('a' + r.IntN(26))
	}
	switch r.IntN(20) {
	case 0, 1, 2, 3:
		return call{"Create " + name, func(d *disk.Disk) api.Errno { return d.Create(name) }, func(p *plain) api.Errno { return p.create(name) }}
	case 4, 5, 6, 7:
		return call{fmt.Sprintf("Append %s %q", name, b), func(d *disk.Disk) api.Errno { return d.Append(name, b) }, func(p *plain) api.Errno { return p.append(name, b) }}
	case 8, 9:
		return call{fmt.Sprint("Cut ", name, n), func(d *disk.Disk) api.Errno { return d.Cut(name, n) }, func(p *plain) api.Errno { return p.cut(name, n) }}
	case 10, 11:
		return call{"Rename " + name + " " + to, func(d *disk.Disk) api.Errno { return d.Rename(name, to) }, func(p *plain) api.Errno { return p.rename(name, to) }}
	case 12:
		return call{"Remove " + name, func(d *disk.Disk) api.Errno { return d.Remove(name) }, func(p *plain) api.Errno { return p.remove(name) }}
	case 13, 14:
		return call{"Sync " + name, func(d *disk.Disk) api.Errno { return d.Sync(name) }, func(p *plain) api.Errno { return p.sync(name) }}
	case 15:
		return call{"SyncNames", func(d *disk.Disk) api.Errno { return d.SyncNames() }, func(p *plain) api.Errno { return p.syncNames() }}
	case 16:
		how, units := api.How(r.IntN(4)-1), r.IntN(5)-1
		return call{fmt.Sprint("Arm ", n, how, units), func(d *disk.Disk) api.Errno { return d.Arm(n, how, units) }, func(p *plain) api.Errno { return p.arm(n, how, units) }}
	case 17, 18:
		by := byte(1 << r.IntN(5))
		return call{fmt.Sprint("Flip ", name, n, by), func(d *disk.Disk) api.Errno { return d.Flip(name, n, by) }, func(p *plain) api.Errno { return p.flip(name, n, by) }}
	}
	k := aKeep(r)
	return call{fmt.Sprint("Restart ", k), func(d *disk.Disk) api.Errno { d.Restart(k); return api.OK }, func(p *plain) api.Errno { p.restart(k); return api.OK }}
}

// alike: both answer alike.
func alike(d *disk.Disk, p *plain) string {
	if d.Off() != p.off {
		return fmt.Sprint("Off: ", d.Off())
	}
	if got, want := all(d), p.all(); got != want {
		return fmt.Sprintf("%q, not %q", got, want)
	}
	got, want := d.Pending(), p.pending()
	if got.Names != want.Names || !slices.Equal(got.Data, want.Data) {
		return fmt.Sprint("Pending: ", got, ", not ", want)
	}
	return ""
}

// again: a plain disk with which all this was done.
func again(row []call) *plain {
	p := newPlain()
	for _, c := range row {
		c.way(p)
	}
	return p
}

// Rows of calls, each held against the plain disk; now and then a copy goes on in the disk's place, and the disk is spoilt, or the other way round; at the end every loss of power is looked at on a copy.
func TestAgainstPlain(t *testing.T) {
	r := rand.New(rand.NewPCG(7, 1))
	for range 4000 {
		d, p := disk.New(), newPlain()
		var row []call
		what := func() string {
			var l []string
			for _, c := range row {
				l = append(l, c.what)
			}
			return strings.Join(l, "; ")
		}
		for range 5 + r.IntN(40) {
			c := aCall(r)
			row = append(row, c)
			if got, want := c.disk(d), c.way(p); got != want {
				t.Fatalf("%s: %v, not %v", what(), got, want)
			}
			if s := alike(d, p); s != "" {
				t.Fatalf("%s: %s", what(), s)
			}
			if r.IntN(8) == 0 {
				d = swap(r, d)
			}
		}
		for range 4 {
			k := aKeep(r)
			x, y := d.Copy(), again(row)
			x.Restart(k)
			y.restart(k)
			if s := alike(x, y); s != "" {
				t.Fatalf("%s; Restart %v: %s", what(), k, s)
			}
		}
		if s := alike(d, p); s != "" {
			t.Fatalf("%s; and copies: %s", what(), s)
		}
	}
}

// swap: a disk or its copy, after the other one was spoilt.
func swap(r *rand.Rand, d *disk.Disk) *disk.Disk {
	c := d.Copy()
	if r.IntN(2) == 0 {
		c, d = d, c
	}
	for range 6 {
		aCall(r).disk(c)
	}
	return d
}
