package disk_test

import (
	"bytes"
	"slices"
	"testing"

	"spoor/api"
	"spoor/disk"
)

// spoil: all of a list's bytes, and its spare room.
func spoil(b []byte) {
	b = b[:cap(b)]
	for i := range b {
		b[i] = '#'
	}
}

// What Append is handed is neither kept nor written into, nor its spare room.
func TestAppendedBytesAreNotKept(t *testing.T) {
	d := disk.New()
	must(t, d.Create("a"))
	room := []byte("abcdefgh")
	must(t, d.Append("a", room[:3]))
	must(t, d.Append("a", []byte("xyz")))
	must(t, d.Flip("a", 0, 0x20))
	must(t, d.Cut("a", 2))
	must(t, d.Append("a", []byte("qrs")))
	must(t, d.Sync("a"))
	must(t, d.Append("a", room[:3]))
	must(t, d.Append("a", []byte("t")))
	if string(room) != "abcdefgh" {
		t.Errorf("what was handed in: %q", room)
	}
	spoil(room)
	seen(t, "its bytes", all(d), "a=Abqrsabct")
	must(t, d.SyncNames())
	seen(t, "its lasting bytes and a step", restarted(d, keep(0, 3)), "a=Abqrsabc")
}

// What is read is the reader's.
func TestReadBytesAreNew(t *testing.T) {
	d := disk.New()
	must(t, d.Create("a"))
	must(t, d.SyncNames())
	must(t, d.Append("a", []byte("abc")))
	must(t, d.Sync("a"))
	must(t, d.Append("a", []byte("def")))
	first, _ := d.Read("a", 0, 6)
	part, _ := d.Read("a", 1, 2)
	none, _ := d.Read("a", 2, 0)
	second, _ := d.Read("a", 0, 6)
	spoil(first)
	spoil(part)
	spoil(none)
	seen(t, "another reader's", string(second), "abcdef")
	seen(t, "the file's", all(d), "a=abcdef")
	must(t, d.Cut("a", 0))
	must(t, d.Append("a", []byte("uvwxyz")))
	must(t, d.Flip("a", 0, 1))
	seen(t, "what was read, behind a change", string(second), "abcdef")
	seen(t, "lasting", restarted(d, api.Keep{}), "a=abc")
}

// Names and Pending are the caller's, and a Keep is neither kept nor written into.
func TestListsAreNew(t *testing.T) {
	d := disk.New()
	for _, name := range []string{"c", "a", "b"} {
		must(t, d.Create(name))
		must(t, d.Append(name, []byte(name)))
	}
	l, _ := d.Names()
	m, _ := d.Names()
	for i := range l[:cap(l)] {
		l[:cap(l)][i] = "#"
	}
	if !slices.Equal(m, []string{"a", "b", "c"}) {
		t.Errorf("another caller's names: %q", m)
	}
	k, other := d.Pending(), d.Pending()
	for i := range k.Data[:cap(k.Data)] {
		k.Data[:cap(k.Data)][i] = 99
	}
	if !slices.Equal(other.Data, []int{1, 1, 1}) {
		t.Errorf("another caller's Pending: %v", other)
	}
	seen(t, "Pending", pending(d), "3: 1 1 1")
	data := []int{1, 0, -5, 7, 8}
	d.Restart(api.Keep{Names: 3, Data: data[:3]})
	if !slices.Equal(data, []int{1, 0, -5, 7, 8}) {
		t.Errorf("the Keep's list: %v", data)
	}
	seen(t, "behind Restart", all(d), "a= b= c=c")
}

// A disk and its copy go apart, each with steps of its own behind those that both have, however many these are.
func TestCopiesGoApart(t *testing.T) {
	for n := range 20 {
		d := disk.New()
		must(t, d.Create("a"))
		for range n {
			must(t, d.Append("a", []byte("-")))
			must(t, d.Cut("a", 0))
			must(t, d.Rename("a", "b"))
			must(t, d.Rename("b", "a"))
		}
		c := d.Copy()
		must(t, d.Create("left"))
		must(t, d.Append("a", []byte("L")))
		must(t, c.Create("right"))
		must(t, c.Append("a", []byte("R")))
		must(t, d.Append("left", []byte("l")))
		must(t, c.Append("right", []byte("r")))
		seen(t, "the disk", all(d), "a=L left=l")
		seen(t, "its copy", all(c), "a=R right=r")
		d.Restart(d.Pending())
		c.Restart(c.Pending())
		seen(t, "the disk, restarted", all(d), "a=L left=l")
		seen(t, "its copy, restarted", all(c), "a=R right=r")
	}
}

// Disks that are made apart have nothing in common.
func TestDisksApart(t *testing.T) {
	a, b := disk.New(), disk.New()
	must(t, a.Create("a"))
	must(t, a.Arm(1, api.Stop, 0))
	is(t, "the armed one", a.SyncNames(), api.ErrDiskOff)
	seen(t, "the other one", all(b)+pending(b), "0:")
	is(t, "the other one", b.Create("a"), api.OK)
}

// Many small changes with a Sync behind each cost no more than what they change.
func TestManySmallChanges(t *testing.T) {
	d := disk.New()
	must(t, d.Create("long"))
	must(t, d.Append("long", make([]byte, 1<<22)))
	for i := range 20000 {
		must(t, d.Append("long", []byte{byte(i)}))
		must(t, d.Sync("long"))
	}
	if n, _ := d.Size("long"); n != 1<<22+20000 {
		t.Errorf("Size: %d", n)
	}
	for range 20000 {
		must(t, d.Create("tmp"))
		must(t, d.Remove("tmp"))
		must(t, d.SyncNames())
	}
	if k := d.Pending(); len(k.Data) != 20001 || slices.Max(k.Data) != 0 {
		t.Errorf("Pending: %d files", len(k.Data))
	}
	b, e := d.Read("long", 1<<22, 3)
	if e != api.OK || !bytes.Equal(b, []byte{0, 1, 2}) {
		t.Errorf("Read: %v, %v", b, e)
	}
}
