package journal_test

import (
	"fmt"
	"math/rand/v2"
	"slices"
	"testing"

	"spoor/api"
	"spoor/disk"
	"spoor/journal"
)

// witness knows what was handed to a journal, and what was promised of it.
type witness struct {
	handed  []string // from record 0 on
	floor   uint64   // all below lasts
	dropped uint64   // below this number records may be gone
	next    uint64   // what Next was last
}

// act makes one call; false: it was refused.
func (w *witness) act(j *journal.Journal, what string) bool {
	ok := false
	switch what[0] {
	case '+':
		w.handed = append(w.handed[:w.next], what[1:])
		_, e := j.Append([]byte(what[1:]))
		ok = e == api.OK
	case '!':
		ok = j.Flush() == api.OK
	case '-':
		below := uint64(what[1] - '0')
		w.dropped = max(w.dropped, below)
		_, e := j.Drop(below)
		ok = e == api.OK
	}
	w.floor, w.next = j.Flushed(), j.Next()
	return ok
}

// finds opens the journal anew, and holds it against what was promised (P8.2, P8.4).
func (w *witness) finds(t *testing.T, what string, d *disk.Disk) (*journal.Journal, api.Recovery) {
	t.Helper()
	j, r, err := journal.Open(d, 64)
	if err != nil {
		t.Fatalf("%s: %v", what, err)
	}
	if r.First > w.dropped || r.Next < w.floor || r.Next > uint64(len(w.handed)) || r.Next < r.First {
		t.Fatalf("%s: %+v, of %+v", what, r, *w)
	}
	n := r.First
	for number, b := range j.Records(0) {
		if number != n || string(b) != w.handed[n] {
			t.Fatalf("%s: the record %d is %d %q, of %+v", what, n, number, b, *w)
		}
		n++
	}
	if n != r.Next || j.Next() != r.Next || j.Flushed() != r.Next {
		t.Fatalf("%s: %+v, Next %d, Flushed %d, records up to %d", what, r, j.Next(), j.Flushed(), n)
	}
	files := j.Segments()
	if len(files) != r.Segments || files[0].First != r.First {
		t.Fatalf("%s: %+v, %v", what, r, files)
	}
	for i, s := range files[1:] {
		if s.Number != files[i].Number+1 || s.First != files[i].First+uint64(files[i].Count) {
			t.Fatalf("%s: a gap: %v", what, files)
		}
	}
	return j, r
}

// twice opens it once more, with losses of power between and without: it is the same (P8.3), and all that it has lasts.
func (w *witness) twice(t *testing.T, what string, d *disk.Disk, j *journal.Journal, r api.Recovery) {
	t.Helper()
	records, files, seen := told(j, 0), j.Segments(), contents(d)
	r.Torn = 0
	k := d.Pending()
	for _, c := range []*disk.Disk{restarted(d, api.Keep{}), restarted(d, k), restarted(d, api.Keep{Names: k.Names}), d.Copy()} {
		i, again, err := journal.Open(c, 64)
		if err != nil || again != r || told(i, 0) != records || !slices.Equal(i.Segments(), files) || contents(c) != seen {
			t.Fatalf("%s, opened twice: %+v, %v; not %+v", what, again, err, r)
		}
	}
}

func restarted(d *disk.Disk, k api.Keep) *disk.Disk {
	c := d.Copy()
	c.Restart(k)
	return c
}

// keeps is all that may outlast a loss of power, of a few pending steps; of many units those about the edges of frames.
func keeps(k api.Keep) []api.Keep {
	l := []api.Keep{{}}
	for _, n := range k.Data {
		var more []api.Keep
		for _, ahead := range l {
			for u := range n + 1 {
				if n > 60 && u%24 > 1 && u != n && u != n-1 {
					continue
				}
				more = append(more, api.Keep{Data: append(slices.Clone(ahead.Data), u)})
			}
		}
		l = more
	}
	var all []api.Keep
	for names := range k.Names + 1 {
		for _, x := range l {
			all = append(all, api.Keep{Names: names, Data: x.Data})
		}
	}
	return all
}

// Wherever in a row of calls the power goes, or a change fails, with whatever is done of it, and whatever outlasts it (P8.1, P8.2, P8.3).
func TestPowerGoesAnywhere(t *testing.T) {
	script := []string{"+abc", "+de", "!", "+", "-2", "+fgh", "+i", "-4", "+" + string(make([]byte, 50)), "!", "+jkl", "-9"}
	for _, how := range []api.How{api.Stop, api.Fail} {
		for _, units := range []int{0, 1, 23, 24, 25, 26, 31, 99} {
			for n := 1; ; n++ {
				what := fmt.Sprint("armed with ", n, ", ", how, ", ", units)
				d := disk.New()
				j := opened(t, d, 64, api.Recovery{Segments: 1})
				d.Arm(n, how, units)
				w := &witness{}
				failed := slices.ContainsFunc(script, func(s string) bool { return !w.act(j, s) })
				for _, k := range keeps(d.Pending()) {
					c := restarted(d, k)
					what := fmt.Sprint(what, ", keeping ", k)
					i, r := w.finds(t, what, c)
					w.twice(t, what, c, i, r)
					adds(t, i, "more", r.Next)
				}
				if how == api.Fail {
					w.stays(t, what, d)
				}
				if !failed {
					break
				}
			}
		}
	}
}

// stays: without a loss of power all that was appended is there, and perhaps one more (P8.1).
func (w *witness) stays(t *testing.T, what string, d *disk.Disk) {
	t.Helper()
	c := d.Copy()
	c.Arm(0, api.Stop, 0)
	j, r := w.finds(t, what, c)
	if r.Next != w.next && r.Next != w.next+1 {
		t.Fatalf("%s: Next is %d, and was %d", what, r.Next, w.next)
	}
	w.twice(t, what, c, j, r)
}

// The power goes while a journal is opened that lasts: whatever is done of it, and whatever outlasts, nothing is lost that was there.
func TestPowerGoesInOpen(t *testing.T) {
	for _, s := range scenes() {
		if s.what == "a spoilt file" {
			continue
		}
		made := disk.New()
		s.make(made)
		made.Restart(made.Pending())
		whole, want, f := plainOpen(made.Copy(), 64)
		if f != nil {
			t.Fatal(f)
		}
		for n := 1; n <= 7; n++ {
			for _, how := range []api.How{api.Stop, api.Fail} {
				for _, units := range []int{0, 1, 20, 99} {
					d := made.Copy()
					d.Arm(n, how, units)
					journal.Open(d, 64)
					for _, k := range keeps(d.Pending()) {
						j, r, err := journal.Open(restarted(d, k), 64)
						r.Torn = want.Torn
						if err != nil || r != want || told(j, 0) != whole.told(0) {
							t.Fatalf("%s, armed with %d, keeping %v: %+v, %v; not %+v", s.what, n, k, r, err, want)
						}
					}
				}
			}
		}
	}
}

// An Open in which a change fails is made up for by the next one, without a loss of power between.
func TestChangeFailsInOpen(t *testing.T) {
	for _, s := range scenes() {
		d := disk.New()
		s.make(d)
		whole, want, f := plainOpen(d.Copy(), 64)
		if f != nil {
			continue
		}
		for n := 1; n <= 7; n++ {
			for _, units := range []int{0, 1, 20, 99} {
				c := d.Copy()
				c.Arm(n, api.Fail, units)
				journal.Open(c, 64)
				c.Arm(0, api.Fail, 0)
				j, r, err := journal.Open(c, 64)
				r.Torn = want.Torn
				if err != nil || r != want || told(j, 0) != whole.told(0) {
					t.Fatalf("%s, armed with %d: %+v, %v; not %+v", s.what, n, r, err, want)
				}
			}
		}
	}
}

// Rows of calls and losses of power, one behind the other: what was found behind each loss is what the next row begins with.
func TestPowerGoesAgainAndAgain(t *testing.T) {
	for seed := range uint64(1500) {
		r := rand.New(rand.NewPCG(82, seed))
		what := fmt.Sprint("row ", seed)
		d := disk.New()
		w := &witness{}
		for life := range 6 {
			d.Arm(0, api.Stop, 0)
			if r.IntN(4) == 0 { // a first Open in which the power goes, or a change fails
				d.Arm(1+r.IntN(4), api.How(r.IntN(2)), r.IntN(40))
				journal.Open(d, 64)
				if d.Off() || r.IntN(2) == 0 {
					d.Restart(someKeep(r, d.Pending()))
				}
				d.Arm(0, api.Stop, 0)
			}
			j, rec := w.finds(t, fmt.Sprint(what, ", life ", life), d)
			if r.IntN(4) == 0 {
				w.twice(t, what, d, j, rec)
			}
			w.handed, w.floor, w.next = w.handed[:rec.Next], rec.Next, rec.Next
			d.Arm(1+r.IntN(30), api.How(r.IntN(2)), []int{0, 1, 23, 24, 30, 99}[r.IntN(6)])
			for range r.IntN(15) {
				call := "+" + string(slices.Repeat([]byte{byte('a' + r.IntN(26))}, r.IntN(30)))
				switch r.IntN(6) {
				case 0:
					call = "!"
				case 1:
					call = "-" + string(byte('0'+min(w.next, uint64(r.IntN(30)))))
				}
				if !w.act(j, call) {
					break
				}
			}
			if d.Off() || r.IntN(3) > 0 {
				d.Restart(someKeep(r, d.Pending()))
			}
		}
	}
}

// Drop loses no record from its number on, whatever of it is done, and whatever outlasts; Next stays (P8.4).
func TestPowerGoesInDrop(t *testing.T) {
	made := func() (*disk.Disk, *journal.Journal, *witness) {
		d := disk.New()
		j := opened(t, d, 64, api.Recovery{Segments: 1})
		w := &witness{}
		for i := range 6 {
			w.act(j, fmt.Sprint("+", i))
		}
		w.act(j, "!")
		return d, j, w
	}
	for below := range uint64(8) {
		for n := range 8 {
			for _, how := range []api.How{api.Stop, api.Fail} {
				for units := range 2 {
					d, j, w := made()
					d.Arm(n, how, units)
					ok := w.act(j, fmt.Sprint("-", below))
					if j.Next() != 6 {
						t.Error("Next is", j.Next())
					}
					for _, k := range keeps(d.Pending()) {
						what := fmt.Sprint("Drop(", below, "), armed with ", n, ", keeping ", k)
						c := restarted(d, k)
						i, r := w.finds(t, what, c)
						if r.Next != 6 || r.Torn != 0 || ok && r.First != min(below, 5) {
							t.Fatal(what, r)
						}
						w.twice(t, what, c, i, r)
					}
				}
			}
		}
	}
}
