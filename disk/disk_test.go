package disk_test

import (
	"fmt"
	"math"
	"slices"
	"strings"
	"testing"

	"spoor/api"
	"spoor/disk"
)

// must: a call answers OK.
func must(t *testing.T, e api.Errno) {
	t.Helper()
	if e != api.OK {
		t.Fatalf("answered %v, not OK", e)
	}
}

// is: a call answers this error.
func is(t *testing.T, what string, got, want api.Errno) {
	t.Helper()
	if got != want {
		t.Errorf("%s: %v, not %v", what, got, want)
	}
}

// text: a file's bytes, or the error that it is asked for them with.
func text(d *disk.Disk, name string) string {
	n, e := d.Size(name)
	if e != api.OK {
		return e.Error()
	}
	b, e := d.Read(name, 0, n)
	if e != api.OK {
		return e.Error()
	}
	return string(b)
}

// all: the names with the bytes of each, as "a=abc b=".
func all(d *disk.Disk) string {
	l, e := d.Names()
	if e != api.OK {
		return e.Error()
	}
	var out []string
	for _, name := range l {
		out = append(out, name+"="+text(d, name))
	}
	return strings.Join(out, " ")
}

// pending: what Pending tells, as "1: 2 0".
func pending(d *disk.Disk) string {
	k := d.Pending()
	out := fmt.Sprint(k.Names, ":")
	for _, n := range k.Data {
		out += fmt.Sprint(" ", n)
	}
	return out
}

// seen: a disk answers just this.
func seen(t *testing.T, what string, got, want string) {
	t.Helper()
	if got != want {
		t.Errorf("%s: %q, not %q", what, got, want)
	}
}

// restarted: all of a copy behind Restart.
func restarted(d *disk.Disk, k api.Keep) string {
	c := d.Copy()
	c.Restart(k)
	return all(c)
}

func keep(names int, data ...int) api.Keep { return api.Keep{Names: names, Data: data} }

func TestNew(t *testing.T) {
	d := disk.New()
	seen(t, "a new disk", all(d), "")
	seen(t, "its Pending", pending(d), "0:")
	if d.Off() {
		t.Error("a new disk is off")
	}
	for range 3 {
		is(t, "a change of a new disk", d.SyncNames(), api.OK)
	}
	if disk.New() == disk.New() {
		t.Error("two disks are one")
	}
}

// Example 1.
func TestExampleLost(t *testing.T) {
	d := disk.New()
	must(t, d.Create("a"))
	must(t, d.Append("a", []byte("abc")))
	must(t, d.Sync("a"))
	must(t, d.Append("a", []byte("de")))
	seen(t, "Pending", pending(d), "1: 2")
	seen(t, "one step and one unit", restarted(d, keep(1, 1)), "a=abcd")
	seen(t, "ahead of Restart", all(d), "a=abcde")
	d.Restart(api.Keep{})
	seen(t, "the empty Keep", all(d), "")
	seen(t, "a file that is gone", pending(d), "0: 0")
}

// cuts: the disk of example 2.
func cuts(t *testing.T) *disk.Disk {
	d := disk.New()
	must(t, d.Create("a"))
	must(t, d.Append("a", []byte("abcdef")))
	must(t, d.Sync("a"))
	must(t, d.SyncNames())
	must(t, d.Cut("a", 2))
	must(t, d.Append("a", []byte("xy")))
	return d
}

// Example 2.
func TestExampleCut(t *testing.T) {
	d := cuts(t)
	seen(t, "Pending", pending(d), "0: 3")
	for n, want := range []string{"abcdef", "ab", "abx", "abxy", "abxy"} {
		seen(t, fmt.Sprint(n, " units"), restarted(d, keep(0, n)), "a="+want)
	}
	seen(t, "the disk itself", all(d), "a=abxy")
}

// Example 3.
func TestExampleStop(t *testing.T) {
	d := cuts(t)
	must(t, d.Arm(2, api.Stop, 1))
	must(t, d.Append("a", []byte("p")))
	is(t, "the second change", d.Append("a", []byte("qr")), api.ErrDiskOff)
	if !d.Off() {
		t.Error("the power is on")
	}
	_, e := d.Size("a")
	is(t, "Size", e, api.ErrDiskOff)
	d.Restart(d.Pending())
	seen(t, "behind Restart of Pending", all(d), "a=abxypq")
}

// Example 4.
func TestExampleRename(t *testing.T) {
	d := disk.New()
	must(t, d.Create("a"))
	must(t, d.Create("b"))
	must(t, d.Append("a", []byte("A")))
	must(t, d.Append("b", []byte("B")))
	must(t, d.SyncNames())
	must(t, d.Rename("a", "b"))
	seen(t, "renamed", all(d), "b=A")
	seen(t, "Pending", pending(d), "1: 1 1")
	seen(t, "the empty Keep", restarted(d, api.Keep{}), "a= b=")
	seen(t, "the bytes alone", restarted(d, keep(0, 1, 1)), "a=A b=B")
	seen(t, "all", restarted(d, keep(1, 1, 1)), "b=A")
	must(t, d.SyncNames())
	seen(t, "the file 1 is gone", pending(d), "0: 1 0")
	seen(t, "and does not come back", restarted(d, keep(9, 9, 9)), "b=A")
}

// Example 5.
func TestExampleFail(t *testing.T) {
	d := disk.New()
	must(t, d.Arm(1, api.Fail, 0))
	is(t, "Create, not at all", d.Create("c"), api.ErrDiskFail)
	seen(t, "not at all", all(d), "")
	seen(t, "a file that was not created has no number", pending(d), "0:")
	must(t, d.Arm(1, api.Fail, 1))
	is(t, "Create, wholly", d.Create("c"), api.ErrDiskFail)
	seen(t, "wholly", all(d), "c=")
	if d.Off() {
		t.Error("the power is off")
	}
}

// Example 6.
func TestExampleWrong(t *testing.T) {
	d := disk.New()
	is(t, "Create A", d.Create("A"), api.ErrDiskName)
	must(t, d.Create("a"))
	is(t, "Rename of a to a", d.Rename("a", "a"), api.OK)
	is(t, "Arm", d.Arm(-1, api.Stop, 0), api.ErrArg)
	_, e := d.Read("a", 0, 1<<63-1)
	is(t, "Read", e, api.ErrDiskRange)
}

func TestNamesThatMayBe(t *testing.T) {
	for c := range 256 {
		may := strings.ContainsRune("abcdefghijklmnopqrstuvwxyz0123456789-.", rune(c)) && c < 128
		for _, name := range []string{string([]byte{byte(c)}), "a" + string([]byte{byte(c)}) + "z"} {
			want := api.OK
			if !may {
				want = api.ErrDiskName
			}
			is(t, fmt.Sprintf("Create %q", name), disk.New().Create(name), want)
		}
	}
	for n, want := range map[int]api.Errno{0: api.ErrDiskName, 1: api.OK, 40: api.OK, 41: api.ErrDiskName, 400: api.ErrDiskName} {
		is(t, fmt.Sprint(n, " bytes"), disk.New().Create(strings.Repeat("x", n)), want)
	}
	// what may not be as a name is no name of letters of more bytes either
	is(t, "ä", disk.New().Create("ä"), api.ErrDiskName)
	for _, name := range []string{".", "..", "-", "0", "seg-0000000007", "blk.tmp"} {
		is(t, name, disk.New().Create(name), api.OK)
	}
}

// Every call that takes a name asks first whether it may be, then whether it is there, then for the range.
func TestErrorsInTheirOrder(t *testing.T) {
	d := disk.New()
	must(t, d.Create("a"))
	must(t, d.Append("a", []byte("abc")))
	must(t, d.Sync("a"))
	must(t, d.SyncNames())
	read := func(name string, at, n int) api.Errno {
		b, e := d.Read(name, at, n)
		if e != api.OK && len(b) != 0 {
			t.Errorf("Read beside %v: %q", e, b)
		}
		return e
	}
	size := func(name string) api.Errno {
		n, e := d.Size(name)
		if e != api.OK && n != 0 {
			t.Errorf("Size beside %v: %d", e, n)
		}
		return e
	}
	low, high := math.MinInt, math.MaxInt
	for _, x := range []struct {
		what      string
		got, want api.Errno
	}{
		{"Create, no name", d.Create(""), api.ErrDiskName},
		{"Create, there", d.Create("a"), api.ErrDiskThere},
		{"Append, no name", d.Append("A", []byte("x")), api.ErrDiskName},
		{"Append, none", d.Append("b", []byte("x")), api.ErrDiskNone},
		{"Append of nothing, none", d.Append("b", nil), api.ErrDiskNone},
		{"Cut, no name and no range", d.Cut("A", -1), api.ErrDiskName},
		{"Cut, none and no range", d.Cut("b", -1), api.ErrDiskNone},
		{"Cut -1", d.Cut("a", -1), api.ErrDiskRange},
		{"Cut 4", d.Cut("a", 4), api.ErrDiskRange},
		{"Cut least", d.Cut("a", low), api.ErrDiskRange},
		{"Cut greatest", d.Cut("a", high), api.ErrDiskRange},
		{"Rename, from no name", d.Rename("A", "b"), api.ErrDiskName},
		{"Rename, to no name", d.Rename("a", "A"), api.ErrDiskName},
		{"Rename, none, to no name", d.Rename("b", "A"), api.ErrDiskName},
		{"Rename, both no names", d.Rename("", ""), api.ErrDiskName},
		{"Rename, none", d.Rename("b", "a"), api.ErrDiskNone},
		{"Rename, none, to itself", d.Rename("b", "b"), api.ErrDiskNone},
		{"Remove, no name", d.Remove("A"), api.ErrDiskName},
		{"Remove, none", d.Remove("b"), api.ErrDiskNone},
		{"Sync, no name", d.Sync("A"), api.ErrDiskName},
		{"Sync, none", d.Sync("b"), api.ErrDiskNone},
		{"Read, no name and no range", read("A", -1, 0), api.ErrDiskName},
		{"Read, none and no range", read("b", -1, 0), api.ErrDiskNone},
		{"Read at -1", read("a", -1, 2), api.ErrDiskRange},
		{"Read -1", read("a", 2, -1), api.ErrDiskRange},
		{"Read at 4", read("a", 4, 0), api.ErrDiskRange},
		{"Read 4", read("a", 0, 4), api.ErrDiskRange},
		{"Read at 2, 2", read("a", 2, 2), api.ErrDiskRange},
		{"Read at 1, greatest", read("a", 1, high), api.ErrDiskRange},
		{"Read at greatest, 1", read("a", high, 1), api.ErrDiskRange},
		{"Read at greatest, greatest", read("a", high, high), api.ErrDiskRange},
		{"Read at least, least", read("a", low, low), api.ErrDiskRange},
		{"Read at greatest, least", read("a", high, low), api.ErrDiskRange},
		{"Read at 3, 0", read("a", 3, 0), api.OK},
		{"Size, no name", size("A"), api.ErrDiskName},
		{"Size, none", size("b"), api.ErrDiskNone},
		{"Flip, no name and no range", d.Flip("A", -1, 1), api.ErrDiskName},
		{"Flip, none and no range", d.Flip("b", -1, 1), api.ErrDiskNone},
		{"Flip -1", d.Flip("a", -1, 1), api.ErrDiskRange},
		{"Flip 3", d.Flip("a", 3, 1), api.ErrDiskRange},
		{"Flip least", d.Flip("a", low, 1), api.ErrDiskRange},
		{"Flip greatest", d.Flip("a", high, 1), api.ErrDiskRange},
		{"Arm -1", d.Arm(-1, api.Stop, 0), api.ErrArg},
		{"Arm least", d.Arm(low, api.Stop, 0), api.ErrArg},
		{"Arm, units -1", d.Arm(1, api.Fail, -1), api.ErrArg},
		{"Arm, how 2", d.Arm(1, 2, 0), api.ErrArg},
		{"Arm, how -1", d.Arm(1, -1, 0), api.ErrArg},
		{"Arm 0, how 2", d.Arm(0, 2, 0), api.ErrArg},
		{"Arm 0, units -1", d.Arm(0, api.Stop, -1), api.ErrArg},
	} {
		is(t, x.what, x.got, x.want)
	}
	seen(t, "behind what was refused", all(d), "a=abc")
	seen(t, "Pending behind what was refused", pending(d), "0: 0")
}

func TestRead(t *testing.T) {
	d := disk.New()
	must(t, d.Create("a"))
	must(t, d.Append("a", []byte("abc")))
	must(t, d.Append("a", nil))
	must(t, d.Append("a", []byte("def")))
	for at := range 7 {
		for n := range 7 - at {
			b, e := d.Read("a", at, n)
			if e != api.OK || string(b) != "abcdef"[at:at+n] {
				t.Errorf("Read %d, %d: %q, %v", at, n, b, e)
			}
		}
	}
	if n, e := d.Size("a"); n != 6 || e != api.OK {
		t.Errorf("Size: %d, %v", n, e)
	}
}

func TestNamesRise(t *testing.T) {
	d := disk.New()
	want := []string{"-", ".", "0", "9", "a", "a-", "a.", "a0", "aa", "b", "z"}
	for _, i := range []int{7, 2, 10, 0, 5, 9, 1, 3, 8, 6, 4} {
		must(t, d.Create(want[i]))
	}
	for range 5 {
		got, e := d.Names()
		if e != api.OK || !slices.Equal(got, want) {
			t.Errorf("Names: %q, %v", got, e)
		}
	}
}

// off: a disk with a file whose power has gone.
func off(t *testing.T) *disk.Disk {
	d := cuts(t)
	must(t, d.Arm(1, api.Stop, 0))
	is(t, "the armed change", d.Create("z"), api.ErrDiskOff)
	return d
}

// While the power is off, no other error is told, and nothing is changed.
func TestOff(t *testing.T) {
	d := off(t)
	ask := map[string]func(name string) api.Errno{
		"Create":    d.Create,
		"Append":    func(n string) api.Errno { return d.Append(n, []byte("x")) },
		"Cut":       func(n string) api.Errno { return d.Cut(n, 0) },
		"Cut -1":    func(n string) api.Errno { return d.Cut(n, -1) },
		"Rename":    func(n string) api.Errno { return d.Rename(n, "b") },
		"Rename to": func(n string) api.Errno { return d.Rename("a", n) },
		"Remove":    d.Remove,
		"Sync":      d.Sync,
		"SyncNames": func(string) api.Errno { return d.SyncNames() },
		"Arm":       func(string) api.Errno { return d.Arm(1, api.Fail, 0) },
		"Arm -1":    func(string) api.Errno { return d.Arm(-1, 2, -1) },
		"Size":      func(n string) api.Errno { _, e := d.Size(n); return e },
		"Read":      func(n string) api.Errno { _, e := d.Read(n, 0, 1); return e },
		"Read -1":   func(n string) api.Errno { _, e := d.Read(n, -1, 1); return e },
		"Names":     func(string) api.Errno { _, e := d.Names(); return e },
		"Flip":      func(n string) api.Errno { return d.Flip(n, 0, 1) },
		"Flip -1":   func(n string) api.Errno { return d.Flip(n, -1, 1) },
	}
	for what, f := range ask {
		for _, name := range []string{"a", "b", "A", ""} {
			is(t, what+" "+name, f(name), api.ErrDiskOff)
		}
	}
	if n, _ := d.Size("a"); n != 0 {
		t.Errorf("Size beside an error: %d", n)
	}
	if b, _ := d.Read("a", 0, 1); len(b) != 0 {
		t.Errorf("Read beside an error: %q", b)
	}
	if l, _ := d.Names(); len(l) != 0 {
		t.Errorf("Names beside an error: %q", l)
	}
	seen(t, "Pending while it is off", pending(d), "0: 3")
	c := d.Copy()
	if !d.Off() || !c.Off() {
		t.Error("it is on, or its copy")
	}
	d.Restart(d.Pending())
	seen(t, "behind Restart", all(d), "a=abxy")
	if d.Off() || !c.Off() {
		t.Error("Restart of a disk is seen on its copy, or leaves it off")
	}
	for range 3 {
		is(t, "a change behind Restart", d.SyncNames(), api.OK)
	}
}
