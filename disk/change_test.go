package disk_test

import (
	"fmt"
	"math"
	"testing"

	"spoor/api"
	"spoor/disk"
)

// Steps of the names, one behind the other: what each beginning of them leaves.
func TestStepsOfNames(t *testing.T) {
	d := disk.New()
	must(t, d.Create("a"))
	must(t, d.Append("a", []byte("0")))
	must(t, d.Create("b"))
	must(t, d.Append("b", []byte("1")))
	must(t, d.Rename("a", "b"))
	must(t, d.Create("a"))
	must(t, d.Append("a", []byte("2")))
	must(t, d.Rename("b", "c"))
	must(t, d.Remove("c"))
	must(t, d.Create("c"))
	must(t, d.Remove("a"))
	seen(t, "all steps", all(d), "c=")
	seen(t, "Pending", pending(d), "8: 1 1 1 0")
	for n, want := range []string{"", "a=0", "a=0 b=1", "b=0", "a=2 b=0", "a=2 c=0", "a=2", "a=2 c=", "c=", "c="} {
		seen(t, fmt.Sprint(n, " steps"), restarted(d, keep(n, 1, 1, 1, 1)), want)
	}
	must(t, d.SyncNames())
	seen(t, "Pending behind SyncNames", pending(d), "0: 0 0 0 0")
	seen(t, "the empty Keep", restarted(d, api.Keep{}), "c=")
}

// A file whose bytes last may lose its name all the same, and one whose name lasts its bytes.
func TestNameAndBytesApart(t *testing.T) {
	d := disk.New()
	must(t, d.Create("a"))
	must(t, d.Append("a", []byte("abc")))
	must(t, d.Sync("a"))
	must(t, d.Create("b"))
	seen(t, "Sync and no SyncNames", restarted(d, api.Keep{}), "")
	must(t, d.SyncNames())
	must(t, d.Append("b", []byte("xyz")))
	seen(t, "SyncNames and no Sync", restarted(d, api.Keep{}), "a=abc b=")
}

// What is done to a file goes with it, whatever it is called.
func TestRenamedFileGoesOn(t *testing.T) {
	d := disk.New()
	must(t, d.Create("a"))
	must(t, d.Append("a", []byte("ab")))
	must(t, d.SyncNames())
	must(t, d.Rename("a", "b"))
	must(t, d.Append("b", []byte("cd")))
	must(t, d.Sync("b"))
	seen(t, "under its elder name", restarted(d, api.Keep{}), "a=abcd")
	seen(t, "under its new one", restarted(d, keep(1)), "b=abcd")
	is(t, "its elder name", d.Remove("a"), api.ErrDiskNone)
	must(t, d.Create("a"))
	seen(t, "another file of the elder name", all(d), "a= b=abcd")
	seen(t, "Pending", pending(d), "2: 0 0")
}

// A Rename of a name to itself is nothing, but a change.
func TestRenameToItself(t *testing.T) {
	d := disk.New()
	must(t, d.Create("a"))
	must(t, d.Append("a", []byte("abc")))
	must(t, d.Rename("a", "a"))
	seen(t, "Pending", pending(d), "1: 3")
	seen(t, "all", all(d), "a=abc")
	must(t, d.Arm(2, api.Fail, 1))
	must(t, d.Rename("a", "a"))
	is(t, "the second change", d.Rename("a", "a"), api.ErrDiskFail)
	seen(t, "all, wholly", all(d), "a=abc")
	seen(t, "Pending, wholly", pending(d), "1: 3")
}

// A file that never lasts is gone as soon as SyncNames has seen it go; till then a beginning of the steps has it.
func TestGone(t *testing.T) {
	d := disk.New()
	must(t, d.Create("a"))
	must(t, d.Append("a", []byte("abc")))
	must(t, d.Remove("a"))
	seen(t, "removed", all(d), "")
	seen(t, "Pending of a file that is removed", pending(d), "2: 3")
	seen(t, "its Create alone", restarted(d, keep(1, 2)), "a=ab")
	c := d.Copy()
	must(t, c.SyncNames())
	seen(t, "Pending of a file that is gone", pending(c), "0: 0")
	must(t, c.Create("a"))
	must(t, c.Append("a", []byte("xy")))
	seen(t, "its number is not given again", pending(c), "1: 0 2")
	seen(t, "the units of the number 0 are nobody's", restarted(c, keep(1, 9)), "a=")
	d.Restart(keep(2, 9))
	seen(t, "gone by Restart", pending(d), "0: 0")
	must(t, d.Create("b"))
	must(t, d.Append("b", []byte("x")))
	seen(t, "numbers go on", pending(d), "1: 0 1")
}

// Of a file that was lost with its Create the number is not given again, either.
func TestNumbersGoOn(t *testing.T) {
	d := disk.New()
	for n := range 5 {
		must(t, d.Create("a"))
		must(t, d.Append("a", make([]byte, n+1)))
		if k := d.Pending(); len(k.Data) != n+1 || k.Data[n] != n+1 {
			t.Fatalf("Pending: %v", k)
		}
		d.Restart(api.Keep{})
	}
	seen(t, "all lost", pending(d), "0: 0 0 0 0 0")
}

// Keep may say more than there is, or less than nothing.
func TestKeepsOfAllKinds(t *testing.T) {
	d := disk.New()
	must(t, d.Create("a"))
	must(t, d.Create("b"))
	must(t, d.Append("a", []byte("abc")))
	must(t, d.Cut("a", 1))
	must(t, d.Append("b", []byte("xyz")))
	low, high := math.MinInt, math.MaxInt
	for _, x := range []struct {
		k    api.Keep
		want string
	}{
		{keep(0), ""},
		{keep(-1, 9, 9), ""},
		{keep(low, high, high), ""},
		{keep(1), "a="},
		{keep(1, 2), "a=ab"},
		{keep(2), "a= b="},
		{keep(3), "a= b="},
		{keep(high), "a= b="},
		{keep(2, 3), "a=abc b="},
		{keep(2, 4), "a=a b="},
		{keep(2, high), "a=a b="},
		{keep(2, -1, 1), "a= b=x"},
		{keep(2, low, high), "a= b=xyz"},
		{keep(2, low, low), "a= b="},
		{keep(2, high, high, high, low, 7), "a=a b=xyz"},
	} {
		seen(t, fmt.Sprint("Restart of ", x.k), restarted(d, x.k), x.want)
	}
}

// A Cut is one unit, whatever it cuts; also of all bytes, and of none.
func TestUnits(t *testing.T) {
	d := disk.New()
	must(t, d.Create("a"))
	must(t, d.SyncNames())
	must(t, d.Cut("a", 0))
	must(t, d.Append("a", []byte("abcd")))
	must(t, d.Append("a", nil))
	must(t, d.Append("a", []byte{}))
	must(t, d.Cut("a", 4))
	must(t, d.Cut("a", 3))
	must(t, d.Append("a", []byte("xy")))
	must(t, d.Cut("a", 0))
	must(t, d.Append("a", []byte("q")))
	seen(t, "Pending", pending(d), "0: 11")
	for n, want := range []string{"", "", "a", "ab", "abc", "abcd", "abcd", "abc", "abcx", "abcxy", "", "q", "q"} {
		seen(t, fmt.Sprint(n, " units"), restarted(d, keep(0, n)), "a="+want)
	}
	must(t, d.Sync("a"))
	seen(t, "Pending behind Sync", pending(d), "0: 0")
	seen(t, "the empty Keep", restarted(d, api.Keep{}), "a=q")
}

// Sync is of one file.
func TestSyncOfOne(t *testing.T) {
	d := disk.New()
	must(t, d.Create("a"))
	must(t, d.Create("b"))
	must(t, d.SyncNames())
	must(t, d.Append("a", []byte("abc")))
	must(t, d.Append("b", []byte("xyz")))
	must(t, d.Sync("a"))
	seen(t, "Pending", pending(d), "0: 0 3")
	must(t, d.SyncNames())
	seen(t, "SyncNames makes no bytes last", pending(d), "0: 0 3")
	seen(t, "the empty Keep", restarted(d, api.Keep{}), "a=abc b=")
}

// A change and what it leaves, done wholly and not at all, and by units.
type change struct {
	what   string
	do     func(d *disk.Disk) api.Errno
	byUnit []string // all and pending, by the units that are done; the last one: of more, too
}

// armed: a disk on which every change leaves something to be seen.
func armed(t *testing.T) *disk.Disk {
	d := disk.New()
	must(t, d.Create("a"))
	must(t, d.Append("a", []byte("abc")))
	must(t, d.SyncNames())
	must(t, d.Create("b"))
	return d
}

func changes() []change {
	none := "a=abc b= 1: 3 0"
	return []change{
		{"Create", func(d *disk.Disk) api.Errno { return d.Create("c") }, []string{none, "a=abc b= c= 2: 3 0 0"}},
		{"Append", func(d *disk.Disk) api.Errno { return d.Append("a", []byte("xyz")) }, []string{none, "a=abcx b= 1: 4 0", "a=abcxy b= 1: 5 0", "a=abcxyz b= 1: 6 0"}},
		{"Append of nothing", func(d *disk.Disk) api.Errno { return d.Append("a", nil) }, []string{none}},
		{"Cut", func(d *disk.Disk) api.Errno { return d.Cut("a", 1) }, []string{none, "a=a b= 1: 4 0"}},
		{"Rename", func(d *disk.Disk) api.Errno { return d.Rename("a", "b") }, []string{none, "b=abc 2: 3 0"}},
		{"Rename to itself", func(d *disk.Disk) api.Errno { return d.Rename("a", "a") }, []string{none}},
		{"Remove", func(d *disk.Disk) api.Errno { return d.Remove("a") }, []string{none, "b= 2: 3 0"}},
		{"Sync", func(d *disk.Disk) api.Errno { return d.Sync("a") }, []string{none, "a=abc b= 1: 0 0"}},
		{"Sync of nothing", func(d *disk.Disk) api.Errno { return d.Sync("b") }, []string{none}},
		{"SyncNames", func(d *disk.Disk) api.Errno { return d.SyncNames() }, []string{none, "a=abc b= 0: 3 0"}},
	}
}

// state: all that is seen of a disk, also of one that is off.
func state(d *disk.Disk) string {
	p := pending(d)
	c := d.Copy()
	c.Restart(c.Pending())
	return all(c) + " " + p
}

// P7.6, and what the armed change does, of every change, with every How.
func TestArmedChanges(t *testing.T) {
	for _, c := range changes() {
		whole := armed(t)
		must(t, c.do(whole))
		seen(t, c.what+", not armed", state(whole), c.byUnit[len(c.byUnit)-1])
		for _, units := range []int{0, 1, 2, 3, 4, math.MaxInt} {
			want := c.byUnit[min(units, len(c.byUnit)-1)]
			what := fmt.Sprint(c.what, ", units ", units)

			d := armed(t)
			must(t, d.Arm(1, api.Fail, units))
			is(t, what+", Fail", c.do(d), api.ErrDiskFail)
			seen(t, what+", Fail", state(d), want)
			if d.Off() {
				t.Errorf("%s: Fail turns the power off", what)
			}
			is(t, what+", the change behind it", d.Append("b", []byte("x")), api.OK)

			d = armed(t)
			must(t, d.Arm(1, api.Stop, units))
			is(t, what+", Stop", c.do(d), api.ErrDiskOff)
			seen(t, what+", Stop", state(d), want)
			if !d.Off() {
				t.Errorf("%s: Stop leaves the power on", what)
			}
			is(t, what+", the change behind it", c.do(d), api.ErrDiskOff)
			seen(t, what+", behind it", state(d), want)
		}
	}
}

// P7.6: the n - 1 changes ahead are done as if the disk were not armed.
func TestArmedWithMany(t *testing.T) {
	for n := 1; n <= 9; n++ {
		d, free := disk.New(), disk.New()
		must(t, d.Create("a"))
		must(t, free.Create("a"))
		must(t, d.Arm(n, api.Stop, 0))
		for i := 1; i < n; i++ {
			must(t, d.Append("a", []byte{byte('0' + i)}))
			must(t, free.Append("a", []byte{byte('0' + i)}))
		}
		seen(t, fmt.Sprint("ahead of the change ", n), state(d), state(free))
		is(t, fmt.Sprint("the change ", n), d.Append("a", []byte("x")), api.ErrDiskOff)
	}
	d := disk.New()
	must(t, d.Arm(math.MaxInt, api.Stop, math.MaxInt))
	for range 100 {
		must(t, d.SyncNames())
	}
}

// Calls that are refused, and those that are no changes, do not count.
func TestWhatIsNoChange(t *testing.T) {
	d := armed(t)
	must(t, d.Arm(2, api.Fail, 0))
	for range 3 {
		is(t, "Create, no name", d.Create("A"), api.ErrDiskName)
		is(t, "Create, there", d.Create("a"), api.ErrDiskThere)
		is(t, "Append, none", d.Append("c", nil), api.ErrDiskNone)
		is(t, "Cut, no range", d.Cut("a", 4), api.ErrDiskRange)
		is(t, "Rename, none", d.Rename("c", "a"), api.ErrDiskNone)
		is(t, "Rename, no name", d.Rename("a", "A"), api.ErrDiskName)
		is(t, "Remove, none", d.Remove("c"), api.ErrDiskNone)
		is(t, "Sync, none", d.Sync("c"), api.ErrDiskNone)
		is(t, "Arm, refused", d.Arm(-1, api.Stop, 0), api.ErrArg)
		is(t, "Flip", d.Flip("a", 0, 0), api.OK)
		is(t, "Flip, refused", d.Flip("a", 3, 0), api.ErrDiskRange)
		seen(t, "what is asked", all(d)+" "+pending(d), "a=abc b= 1: 3 0")
		d.Copy()
		d.Off()
	}
	is(t, "the first change", d.Sync("b"), api.OK)
	is(t, "the second change", d.Sync("b"), api.ErrDiskFail)
	is(t, "the third change", d.Sync("b"), api.OK)
}

// Arm takes the place of what was; of no change it disarms; Restart does, too.
func TestArmedAnew(t *testing.T) {
	d := armed(t)
	must(t, d.Arm(1, api.Stop, 0))
	must(t, d.Arm(2, api.Fail, 1))
	must(t, d.Append("a", []byte("d")))
	is(t, "armed anew", d.Append("a", []byte("ef")), api.ErrDiskFail)
	seen(t, "of the new units", text(d, "a"), "abcde")

	must(t, d.Arm(1, api.Stop, 0))
	must(t, d.Arm(0, api.Stop, 0))
	is(t, "disarmed", d.Append("a", []byte("f")), api.OK)

	must(t, d.Arm(1, api.Stop, 0))
	is(t, "Arm, refused, leaves it armed", d.Arm(0, 2, 0), api.ErrArg)
	c := d.Copy()
	d.Restart(d.Pending())
	is(t, "disarmed by Restart", d.Append("a", []byte("g")), api.OK)
	is(t, "a copy is armed, too", c.Append("a", []byte("g")), api.ErrDiskOff)
	is(t, "by its own arms", d.Append("a", []byte("h")), api.OK)
}

// Flip turns a byte where it came from.
func TestFlip(t *testing.T) {
	d := disk.New()
	must(t, d.Create("a"))
	must(t, d.Append("a", []byte("abcd")))
	must(t, d.Sync("a"))
	must(t, d.SyncNames())
	must(t, d.Append("a", []byte("ef")))
	must(t, d.Cut("a", 5))
	must(t, d.Cut("a", 3))
	must(t, d.Append("a", []byte("xyz")))
	must(t, d.Append("a", []byte("q")))
	seen(t, "all", all(d), "a=abcxyzq")
	for at := range 7 {
		must(t, d.Flip("a", at, 0x20))
	}
	seen(t, "flipped", all(d), "a=ABCXYZQ")
	for n, want := range []string{"ABCd", "ABCde", "ABCdef", "ABCde", "ABC", "ABCX", "ABCXY", "ABCXYZ", "ABCXYZQ"} {
		seen(t, fmt.Sprint(n, " units"), restarted(d, keep(0, n)), "a="+want)
	}
	must(t, d.Flip("a", 3, 0))
	seen(t, "flipped by nothing", all(d), "a=ABCXYZQ")
	seen(t, "Pending", pending(d), "0: 8")
	must(t, d.Sync("a"))
	must(t, d.Flip("a", 3, 0x20))
	must(t, d.Flip("a", 6, 0xff))
	seen(t, "what lasts, flipped", restarted(d, api.Keep{}), "a=ABCxYZ\xae")
}
