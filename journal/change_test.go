package journal_test

import (
	"fmt"
	"math/rand/v2"
	"slices"
	"strings"
	"testing"

	"spoor/api"
	"spoor/disk"
	"spoor/journal"
)

// scene is a disk as it is ahead of Open.
type scene struct {
	what string
	make func(d *disk.Disk)
}

// put makes a file without making it last.
func put(d *disk.Disk, number uint64, b []byte) {
	d.Create(name(number))
	d.Append(name(number), b)
}

// scenes are one for each way through Open's steps.
func scenes() []scene {
	return []scene{
		{"nothing", func(*disk.Disk) {}},
		{"other files", func(d *disk.Disk) { d.Create("seg-1"); d.Append("seg-1", []byte("x")) }},
		{"one whole file", func(d *disk.Disk) { put(d, 0, segment(0, 0, "abc")) }},
		{"a file without records", func(d *disk.Disk) { put(d, 0, segment(0, 0)) }},
		{"three files", func(d *disk.Disk) {
			put(d, 7, segment(7, 3, "a", "b"))
			put(d, 8, segment(8, 5))
			put(d, 9, segment(9, 5, "c"))
		}},
		{"a torn end", func(d *disk.Disk) { put(d, 0, segment(0, 0, "abc", "de")[:80]) }},
		{"a torn end in a second file", func(d *disk.Disk) {
			put(d, 0, segment(0, 0, "abc"))
			put(d, 1, segment(1, 1, "de")[:57])
		}},
		{"a torn head of the only file", func(d *disk.Disk) { put(d, 0, headed(0, 0)[:20]) }},
		{"an empty file alone", func(d *disk.Disk) { d.Create(name(0)) }},
		{"a torn head behind others", func(d *disk.Disk) {
			put(d, 4, segment(4, 9, "abc"))
			put(d, 5, headed(5, 10)[:31])
		}},
		{"an empty file behind others", func(d *disk.Disk) {
			put(d, 4, segment(4, 9, "abc"))
			d.Create(name(5))
		}},
		{"a spoilt file", func(d *disk.Disk) {
			put(d, 4, segment(4, 9, "abc"))
			put(d, 6, headed(6, 10)[:3])
		}},
	}
}

// Open makes just the chapter's changes, in their order, and stops at the first one that is refused, with its error and its file.
func TestOpenChanges(t *testing.T) {
	counts := map[string]int{"nothing": 4, "other files": 4, "one whole file": 2, "a file without records": 2, "three files": 2,
		"a torn end": 3, "a torn end in a second file": 3, "a torn head of the only file": 6, "an empty file alone": 6,
		"a torn head behind others": 4, "an empty file behind others": 4}
	for _, s := range scenes() {
		for k := range 9 {
			for _, how := range []api.How{api.Stop, api.Fail} {
				for _, units := range []int{0, 1, 10, 32, 99} {
					d := disk.New()
					s.make(d)
					d.Arm(k, how, units)
					e := d.Copy()
					j, p := opens(t, fmt.Sprint(s.what, ", armed with ", k, how, units), d, e, 64)
					if (j != nil) != (counts[s.what] > 0 && (k == 0 || k > counts[s.what])) {
						t.Errorf("%s, armed with %d: %v", s.what, k, j != nil)
					}
					if j != nil {
						p.holds(t, j)
						// how many changes were made is seen by how many the disk is armed with still
						if a, b := stillArmed(d), stillArmed(e); a != b {
							t.Errorf("%s: armed with %d still, not %d", s.what, a, b)
						}
					}
				}
			}
		}
	}
}

// stillArmed is how many changes a disk is armed with, up to 20.
func stillArmed(d *disk.Disk) int {
	c := d.Copy()
	for n := 1; n < 20; n++ {
		if c.SyncNames() != api.OK {
			return n
		}
	}
	return 0
}

// The file that an error of Open names: the one that the change was about, none for SyncNames.
func TestOpenRefused(t *testing.T) {
	for what, files := range map[string][]string{
		"nothing":                      {name(0), name(0), name(0), ""},
		"three files":                  {name(9), ""},
		"a torn end in a second file":  {name(1), name(1), ""},
		"a torn head of the only file": {name(0), "", name(0), name(0), name(0), ""},
		"a torn head behind others":    {name(5), "", name(4), ""},
	} {
		l := scenes()
		s := l[slices.IndexFunc(l, func(s scene) bool { return s.what == what })]
		for i, file := range files {
			for _, units := range []int{0, 1} {
				d := disk.New()
				s.make(d)
				d.Arm(i+1, api.Stop, units)
				refuses(t, what, d, 64, api.FileFault{Name: file, Err: api.ErrDiskOff})
				d = disk.New()
				s.make(d)
				d.Arm(i+1, api.Fail, units)
				refuses(t, what, d, 64, api.FileFault{Name: file, Err: api.ErrDiskFail})
			}
		}
	}
}

// deed is a call on an open journal, and the changes that the chapter says it makes.
type deed struct {
	what    string
	do      func(j *journal.Journal) api.Errno
	changes []change
}

func appends(payload string) func(j *journal.Journal) api.Errno {
	return func(j *journal.Journal) api.Errno {
		n, e := j.Append([]byte(payload))
		if e != api.OK && n != 0 {
			panic(n)
		}
		return e
	}
}

func removes(below uint64) func(j *journal.Journal) api.Errno {
	return func(j *journal.Journal) api.Errno {
		n, e := j.Drop(below)
		if e != api.OK && n != 0 {
			panic(n)
		}
		return e
	}
}

// Append, Flush and Drop make just the chapter's changes, in their order, up to the first one that is refused, which breaks the journal.
func TestCallsChanges(t *testing.T) {
	made := func() (*disk.Disk, *journal.Journal) {
		d := disk.New()
		j := opened(t, d, 90, api.Recovery{Segments: 1})
		for i := range uint64(5) {
			adds(t, j, "a", i)
		}
		return d, j
	}
	record := change{kind: "append", file: name(2), bytes: framed(2, 5, "bc")}
	for _, c := range []deed{
		{"an Append", appends("bc"), []change{record}},
		{"an Append of nothing", appends(""), []change{{kind: "append", file: name(2), bytes: framed(2, 5, "")}}},
		{"an Append that goes on", appends("0123456789"), slices.Concat([]change{{kind: "sync", file: name(2)}}, begun(3, 5),
			[]change{{kind: "append", file: name(3), bytes: framed(2, 5, "0123456789")}})},
		{"a Flush", (*journal.Journal).Flush, []change{{kind: "sync", file: name(2)}}},
		{"a Drop of nothing", removes(1), nil},
		{"a Drop of one", removes(3), []change{{kind: "remove", file: name(0)}, {kind: "names"}}},
		{"a Drop of two", removes(9), []change{{kind: "remove", file: name(0)}, {kind: "remove", file: name(1)}, {kind: "names"}}},
	} {
		for k := range len(c.changes) + 2 {
			for _, how := range []api.How{api.Stop, api.Fail} {
				for _, units := range []int{0, 1, 20, 99} {
					d, j := made()
					d.Arm(k, how, units)
					e := d.Copy()
					want := api.OK
					for _, x := range c.changes {
						if want == api.OK {
							want = x.on(e)
						}
					}
					if got := c.do(j); got != want {
						t.Fatalf("%s, armed with %d: %d, not %d", c.what, k, got, want)
					}
					alike(t, c.what, d, e)
					if stillArmed(d) != stillArmed(e) {
						t.Errorf("%s, armed with %d: other changes were made", c.what, k)
					}
					isBroken(t, j, want != api.OK)
				}
			}
		}
	}
}

// isBroken: a broken journal refuses all that would change it, ahead of all else, and changes nothing.
func isBroken(t *testing.T, j *journal.Journal, broken bool) {
	t.Helper()
	want := api.ErrFrameLong
	if broken {
		want = api.ErrJournalBroken
		addRefused(t, j, "a", want)
		flushes(t, j, want)
		drops(t, j, 0, 0, want)
		drops(t, j, 9, 0, want)
	}
	addRefused(t, j, strings.Repeat("x", 1048577), want)
}

// What is broken answers as it stood: what was refused is not counted, what was done ahead of it is.
func TestBroken(t *testing.T) {
	made := func(n int, how api.How, units int) *journal.Journal {
		d := disk.New()
		j := opened(t, d, 90, api.Recovery{Segments: 1})
		for i, p := range []string{"a", "b", "c", "d"} {
			adds(t, j, p, uint64(i))
		}
		d.Arm(n, how, units)
		return j
	}
	one, two := api.Segment{Count: 2, Size: 82}, api.Segment{Number: 1, First: 2, Count: 2, Size: 82}

	for _, units := range []int{0, 1, 24, 99} {
		j := made(1, api.Fail, units) // the Sync ahead of going on
		addRefused(t, j, "e", api.ErrDiskFail)
		stands(t, j, 4, 2, one, two)
		isBroken(t, j, true)
		tells(t, j, 0, "0 a, 1 b, 2 c, 3 d")

		for n := 2; n <= 5; n++ { // the changes that make the next file
			j = made(n, api.Fail, units)
			addRefused(t, j, "e", api.ErrDiskFail)
			stands(t, j, 4, 4, one, two)
			isBroken(t, j, true)
			tells(t, j, 1, "1 b, 2 c, 3 d")
		}

		j = made(6, api.Fail, units) // the record's own Append
		addRefused(t, j, "e", api.ErrDiskFail)
		stands(t, j, 4, 4, one, two, api.Segment{Number: 2, First: 4, Size: 32})
		isBroken(t, j, true)
		readRefused(t, j, 4, api.ErrJournalNone)
		tells(t, j, 3, "3 d")

		j = made(1, api.Fail, units)
		flushes(t, j, api.ErrDiskFail)
		stands(t, j, 4, 2, one, two)
		isBroken(t, j, true)

		j = made(1, api.Stop, units)
		flushes(t, j, api.ErrDiskOff)
		stands(t, j, 4, 2, one, two)
		isBroken(t, j, true)
		readRefused(t, j, 3, api.ErrDiskOff)
		tells(t, j, 0, "")

		j = made(2, api.Fail, units) // SyncNames
		drops(t, j, 2, 0, api.ErrDiskFail)
		stands(t, j, 4, 2, two)
		isBroken(t, j, true)
		readRefused(t, j, 1, api.ErrJournalNone)
		tells(t, j, 0, "2 c, 3 d")
	}

	j := made(1, api.Fail, 0) // a Remove that was not done
	drops(t, j, 2, 0, api.ErrDiskFail)
	stands(t, j, 4, 2, one, two)
	isBroken(t, j, true)
	tells(t, j, 0, "0 a, 1 b, 2 c, 3 d")

	j = made(1, api.Fail, 1) // one that was done, and refused
	drops(t, j, 2, 0, api.ErrDiskFail)
	stands(t, j, 4, 2, one, two)
	isBroken(t, j, true)
	readRefused(t, j, 1, api.ErrDiskNone)
	reads(t, j, 2, "c")
	tells(t, j, 0, "")
	tells(t, j, 1, "")
	tells(t, j, 2, "2 c, 3 d")
}

// Of several files the ones that were removed with OK are gone, though a further one is refused.
func TestBrokenInTheMidst(t *testing.T) {
	d := disk.New()
	j := opened(t, d, 64, api.Recovery{Segments: 1})
	for i := range uint64(4) {
		adds(t, j, fmt.Sprint(i), i)
	}
	d.Arm(2, api.Fail, 0)
	drops(t, j, 3, 0, api.ErrDiskFail)
	stands(t, j, 4, 3, api.Segment{Number: 1, First: 1, Count: 1, Size: 57},
		api.Segment{Number: 2, First: 2, Count: 1, Size: 57}, api.Segment{Number: 3, First: 3, Count: 1, Size: 57})
	readRefused(t, j, 0, api.ErrJournalNone)
	tells(t, j, 0, "1 1, 2 2, 3 3")
	opened(t, d, 64, api.Recovery{Segments: 3, First: 1, Next: 4})
}

// Rows of calls, of losses of power and of changes that fail, are held against the plain journal.
func TestPlainJournal(t *testing.T) {
	for seed := range uint64(1500) {
		r := rand.New(rand.NewPCG(8, seed))
		size := []int{64, 90, 200, 1000}[r.IntN(4)]
		d := disk.New()
		if r.IntN(2) == 0 {
			lays(d, r)
		}
		e := d.Copy()
		what := fmt.Sprint("row ", seed)
		j, p := opens(t, what, d, e, size)
		for step := range 12 {
			if r.IntN(3) == 0 {
				n, how, units := r.IntN(8), api.How(r.IntN(2)), []int{0, 1, 7, 24, 30, 99}[r.IntN(6)]
				d.Arm(n, how, units)
				e.Arm(n, how, units)
			}
			if j == nil || p.broken || r.IntN(6) == 0 {
				k := someKeep(r, d.Pending())
				if d.Off() || r.IntN(2) == 0 {
					d.Restart(k)
					e.Restart(k)
				}
				j, p = opens(t, fmt.Sprint(what, ", step ", step), d, e, size)
			} else {
				callBoth(t, fmt.Sprint(what, ", step ", step), j, p, r)
			}
			if j != nil {
				p.holds(t, j)
			}
			alike(t, fmt.Sprint(what, ", step ", step), d, e)
			if t.Failed() {
				t.Fatal(what)
			}
		}
	}
}

// lays makes a journal that does not begin with the file 0, nor with the record 0, with files that have no records.
func lays(d *disk.Disk, r *rand.Rand) {
	number, first := uint64(r.IntN(5)), uint64(r.IntN(5))
	if r.IntN(4) == 0 {
		number = 9999999999 - uint64(r.IntN(4))
	}
	if r.IntN(4) == 0 {
		first = 1<<62 - uint64(r.IntN(3))
	}
	for range 1 + r.IntN(4) {
		if number > 9999999999 {
			return
		}
		records := slices.Repeat([]string{"ab"}, r.IntN(3))
		put(d, number, segment(number, first, records...))
		number++
		first += uint64(len(records))
	}
}

// callBoth makes one call on both.
func callBoth(t *testing.T, what string, j *journal.Journal, p *plain, r *rand.Rand) {
	t.Helper()
	switch r.IntN(8) {
	case 0:
		if a, b := j.Flush(), p.flush(); a != b {
			t.Fatalf("%s: Flush: %d, not %d", what, a, b)
		}
	case 1:
		below := p.files[0].first + uint64(r.IntN(1+int(p.next()-p.files[0].first)+2))
		n, a := j.Drop(below)
		if m, b := p.drop(below); n != m || a != b {
			t.Fatalf("%s: Drop(%d): %d, %d; not %d, %d", what, below, n, a, m, b)
		}
	default:
		payload := []byte(strings.Repeat(string(rune('a'+r.IntN(26))), r.IntN(40)))
		n, a := j.Append(payload)
		if m, b := p.append(payload); n != m || a != b {
			t.Fatalf("%s: Append of %q: %d, %d; not %d, %d", what, payload, n, a, m, b)
		}
	}
}

// someKeep is any part of what is pending.
func someKeep(r *rand.Rand, k api.Keep) api.Keep {
	k.Names = r.IntN(k.Names + 1)
	for i, n := range k.Data {
		k.Data[i] = r.IntN(n + 1)
	}
	return k
}
