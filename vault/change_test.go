package vault_test

import (
	"fmt"
	"testing"

	"spoor/api"
	"spoor/disk"
	"spoor/vault"
)

// scene is a disk as it is ahead of a call: what it has, and how many changes Save and Clean make of it.
type scene struct {
	what           string
	make           func(d *disk.Disk)
	save, clean    int
	newest, number uint64 // of the newest block; of the one that is to be saved
}

// put makes a file without making it last.
func put(d *disk.Disk, file string, b []byte) {
	d.Create(file)
	d.Append(file, b)
}

// scenes are one for each way through Save and Clean.
func scenes() []scene {
	return []scene{
		{"nothing", func(*disk.Disk) {}, 5, 0, 0, 3},
		{"other files", func(d *disk.Disk) { put(d, "blk-2", []byte("x")); put(d, "seg-0000000000", []byte("y")) }, 5, 0, 0, 3},
		{"an unfinished file", func(d *disk.Disk) { put(d, "blk.tmp", []byte("x")) }, 6, 2, 0, 3},
		{"one block", func(d *disk.Disk) { put(d, name(2), cut(2, ones(1, 2))) }, 5, 0, 2, 3},
		{"one block of the same number", func(d *disk.Disk) { put(d, name(3), cut(3, ones(1, 2))) }, 5, 0, 3, 3},
		{"one block of a greater number", func(d *disk.Disk) { put(d, name(4), cut(4, ones(1, 2))) }, 5, 0, 4, 3},
		{"a block and an unfinished file", func(d *disk.Disk) {
			put(d, name(2), cut(2, ones(1, 2)))
			put(d, "blk.tmp", cut(3, ones(9))[:50])
		}, 6, 2, 2, 3},
		{"three blocks", func(d *disk.Disk) {
			put(d, name(2), cut(2, ones(4)))
			put(d, name(0), cut(0))
			put(d, name(1), cut(1, ones(3)))
		}, 5, 3, 2, 3},
		{"three blocks and all else", func(d *disk.Disk) {
			put(d, "blk.tmp", nil)
			put(d, name(10), cut(10, ones(4), ones(5, 6)))
			put(d, name(9), cut(9))
			put(d, name(1), nil)
			put(d, "blk-1", nil)
			put(d, "zzz", nil)
		}, 6, 4, 10, 1<<64 - 1},
	}
}

// lasting is a scene's disk, on which everything lasts.
func (s scene) lasting() *disk.Disk {
	d := disk.New()
	s.make(d)
	d.Restart(d.Pending())
	return d
}

// arms calls for each way in which a change can be refused, and for none.
func arms(call func(n int, how api.How, units int)) {
	for n := range 9 {
		for _, how := range []api.How{api.Stop, api.Fail} {
			for _, units := range []int{0, 1, 24, 31, 32, 100, 1000} {
				call(n, how, units)
			}
		}
	}
}

// Save makes just the chapter's changes, in their order, and stops at the first one that is refused, with its error.
func TestSaveChanges(t *testing.T) {
	var great []api.Span // more than go into one chunk
	for id := range api.SpanID(7) {
		great = append(great, greatest(id+1))
	}
	for _, s := range scenes() {
		for _, spans := range [][]api.Span{nil, ones(1), great} {
			if len(spans) > 1 && s.save < 6 {
				continue
			}
			arms(func(n int, how api.How, units int) {
				what := fmt.Sprint(s.what, ", ", len(spans), " spans, armed with ", n, how, units)
				d := disk.New()
				s.make(d)
				d.Arm(n, how, units)
				e := d.Copy()
				got, want := vault.Save(d, block(s.number, spans...)), plainSave(e, block(s.number, spans...))
				if got != want || (got == api.OK) != (n == 0 || n > s.save) {
					t.Fatalf("%s: %v, not %v", what, got, want)
				}
				alike(t, what, d, e)
			})
		}
	}
}

// So does Clean.
func TestCleanChanges(t *testing.T) {
	for _, s := range scenes() {
		arms(func(n int, how api.How, units int) {
			what := fmt.Sprint(s.what, ", armed with ", n, how, units)
			d := disk.New()
			s.make(d)
			d.Arm(n, how, units)
			e := d.Copy()
			count, got := vault.Clean(d)
			wantCount, want := plainClean(e)
			if count != wantCount || got != want || (got == api.OK) != (n == 0 || n > s.clean) {
				t.Fatalf("%s: %d, %v; not %d, %v", what, count, got, wantCount, want)
			}
			if got == api.OK && count != max(s.clean-1, 0) {
				t.Fatalf("%s: %d files", what, count)
			}
			alike(t, what, d, e)
		})
	}
}

// What was done ahead of a refusal stays done, and is made up for by the next call.
func TestChangeFails(t *testing.T) {
	for _, s := range scenes() {
		arms(func(n int, how api.How, units int) {
			d := disk.New()
			s.make(d)
			d.Arm(n, how, units)
			vault.Save(d, block(s.number, ones(7)...))
			if d.Off() {
				d.Restart(d.Pending())
			}
			d.Arm(0, how, 0)
			saves(t, d, block(s.number, ones(8)...))
			if s.number >= s.newest {
				tells(t, s.what, d, block(s.number, ones(8)...))
			}
			d.Arm(n, how, units)
			vault.Clean(d)
			if d.Off() {
				d.Restart(d.Pending())
			}
			d.Arm(0, how, 0)
			if _, e := vault.Clean(d); e != api.OK || hasTemp(d) || len(blocks(d)) != 1 {
				t.Fatal(s.what, e, blocks(d))
			}
		})
	}
}
