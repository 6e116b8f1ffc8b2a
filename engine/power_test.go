package engine_test

import (
	"fmt"
	"math/rand/v2"
	"slices"
	"strings"
	"testing"

	"spoor/api"
	"spoor/disk"
	"spoor/engine"
	"spoor/journal"
	"spoor/vault"
)

// keeps is what may outlast a loss of power: of the names each beginning; of the files, whose units are many, the edges, and some between.
func keeps(k api.Keep) []api.Keep {
	l := []api.Keep{{}}
	for _, n := range k.Data {
		var more []api.Keep
		for _, ahead := range l {
			last := -1
			for _, u := range []int{0, 1, 23, 24, 31, 32, n / 2, n - 1, n} {
				if u > last && u <= n {
					more = append(more, api.Keep{Data: append(slices.Clone(ahead.Data), u)})
					last = u
				}
			}
		}
		l = more
	}
	var all []api.Keep
	for names := range k.Names + 1 {
		for _, x := range l {
			all = append(all, api.Keep{Names: names, Data: x.Data})
		}
	}
	return all
}

// witness knows what an engine was handed, and what was promised of it: which sets there were, batch by batch.
type witness struct {
	now     plain
	sets    []string // when it was opened, and behind each batch that was taken
	floor   int      // the first set that may be found
	perhaps string   // the set with the batch whose write failed
}

func told(p plain) string {
	e := engineOf(p)
	return setOf(e)
}

// engineOf is an engine on a disk of its own that has just these spans.
func engineOf(p plain) *engine.Engine {
	d := disk.New()
	b := api.Block{}
	for _, t := range p.traces() {
		b.Spans = append(b.Spans, p.trace(t)...)
	}
	vault.Save(d, b)
	e, _, err := engine.Open(d, small)
	if err != nil {
		panic(err)
	}
	return e
}

func newWitness(p plain) *witness {
	return &witness{now: p, sets: []string{told(p)}}
}

// sees follows a step, and what it answered.
func (w *witness) sees(s step, n api.Errno) {
	began := len(w.sets) - 1
	switch {
	case s > 0 && n == api.OK:
		w.now.put(s.spans()...)
		w.sets = append(w.sets, told(w.now))
	case s > 0 && n != api.ErrEngineSick:
		p := plain{}
		for _, x := range w.now {
			p.put(x)
		}
		p.put(s.spans()...)
		w.perhaps = told(p)
	case s <= 0 && n == api.OK:
		w.floor = began
	}
}

// finds opens the disk anew, and holds what is found against what was promised; which set it was.
func (w *witness) finds(t *testing.T, what string, d *disk.Disk) *engine.Engine {
	t.Helper()
	e, _, err := engine.Open(d, small)
	if err != nil {
		t.Fatalf("%s: %v", what, err)
	}
	got := setOf(e)
	if !slices.Contains(w.sets[w.floor:], got) && got != w.perhaps {
		t.Fatalf("%s: found\n%snot one of\n%s", what, got, strings.Join(append(w.sets[w.floor:], w.perhaps), "or\n"))
	}
	for _, k := range []api.Keep{{}, d.Pending()} { // opened once more, also behind another loss of power
		again, r, err := engine.Open(kept(d, k), small)
		if err != nil || r.Torn != 0 || setOf(again) != got {
			t.Fatalf("%s: opened twice: %v, %v", what, r, err)
		}
	}
	again, r, err := engine.Open(d, small)
	if err != nil || r.Torn != 0 || setOf(again) != got {
		t.Fatalf("%s: opened twice: %v, %v", what, r, err)
	}
	return again
}

// P23.4: wherever the power goes, or a change fails, with whatever is done of it, and whatever outlasts it.
func TestPowerGoesAnywhere(t *testing.T) {
	arms(func(what string, n int, how api.How, units int) bool {
		d := disk.New()
		e, w := opened(t, d, small), newWitness(plain{})
		d.Arm(n, how, units)
		refused := false
		for _, s := range steps {
			got := s.on(t, e)
			w.sees(s, got)
			refused = refused || got != api.OK
		}
		d.Arm(0, how, 0)
		if how == api.Fail { // the engine is left, the power staying on
			c := d.Copy()
			e := w.finds(t, what+", left", c)
			if got := setOf(e); got != w.sets[len(w.sets)-1] && got != w.perhaps {
				t.Fatalf("%s: left: %s", what, got)
			}
			goesOn(t, what, c, e)
		}
		for _, k := range keeps(d.Pending()) {
			what := fmt.Sprint(what, ", keeping ", k)
			c := kept(d, k)
			goesOn(t, what, c, w.finds(t, what, c))
		}
		return refused
	})
}

// goesOn: from there on all promises hold.
func goesOn(t *testing.T, what string, d *disk.Disk, e *engine.Engine) {
	t.Helper()
	before := setOf(e)
	takes(t, e, one(77, 1, 0, "a", 0, 9))
	ok(t, what, e.Flush())
	takes(t, e, one(78, 1, 0, "a", 0, 9))
	d.Restart(api.Keep{})
	e = opened(t, d, small)
	if got := setOf(e); !strings.HasPrefix(got, before) || strings.Count(got, "\n") != strings.Count(before, "\n")+1 {
		t.Fatalf("%s: goes on with\n%snot\n%s", what, got, before)
	}
	ok(t, what, e.Checkpoint())
	oneBlock(t, what, d, e)
}

// The power goes between two calls, at each place.
func TestPowerGoesBetween(t *testing.T) {
	d := disk.New()
	e, w := opened(t, d, small), newWitness(plain{})
	for i, s := range steps {
		n := s.on(t, e)
		ok(t, "a step", n)
		w.sees(s, n)
		for _, k := range keeps(d.Pending()) {
			w.finds(t, fmt.Sprint("behind step ", i, ", keeping ", k), kept(d, k))
		}
		w.finds(t, fmt.Sprint("behind step ", i, ", left"), d.Copy())
	}
}

// The power goes, or a change fails, while an engine is opened: the next one has what there was.
func TestPowerGoesInOpen(t *testing.T) {
	for at := range steps {
		made := disk.New()
		e, w := opened(t, made, small), newWitness(plain{})
		for _, s := range steps[:at+1] {
			w.sees(s, s.on(t, e))
		}
		names, _ := made.Names()
		ok(t, "a torn end", made.Append(names[len(names)-1], []byte("SPR"))) // the journal's last file is the last one
		for n := 1; n < 7; n++ {
			for _, how := range []api.How{api.Stop, api.Fail} {
				for _, units := range []int{0, 1} {
					d := made.Copy()
					d.Arm(n, how, units)
					engine.Open(d, small)
					for _, k := range keeps(d.Pending()) {
						w.finds(t, fmt.Sprint("behind step ", at, ", in the change ", n, " of Open"), kept(d, k))
					}
				}
			}
		}
	}
}

// Many lives of one disk: each engine is left, or loses its power, somewhere; the next one goes on with what it finds.
func TestManyLives(t *testing.T) {
	for seed := range uint64(60) {
		r := rand.New(rand.NewPCG(234, seed))
		d, p := disk.New(), plain{}
		id := step(1)
		for life := range 8 {
			what := fmt.Sprint("seed ", seed, ", life ", life)
			c := api.Config{Segment: []int{64, 200, 1000}[r.IntN(3)], Fan: 2 + r.IntN(15), Workers: 1 + r.IntN(16)}
			e, _, err := engine.Open(d, c)
			if err != nil {
				t.Fatal(what, err)
			}
			w := newWitness(p)
			if r.IntN(5) > 0 {
				d.Arm(1+r.IntN(25), api.How(r.IntN(2)), r.IntN(100))
			}
			sets := []plain{copied(p)}
			for range r.IntN(12) {
				s := step([]int{int(id), int(id), int(id), 0, -1}[r.IntN(5)])
				n := s.on(t, e)
				if s > 0 && n != api.OK && n != api.ErrEngineSick {
					last := copied(p)
					last.put(s.spans()...)
					sets = append(sets, last)
				}
				w.sees(s, n)
				if s > 0 && n == api.OK {
					sets = append(sets, copied(p))
				}
				if s > 0 {
					id++
				}
			}
			d.Arm(0, api.Stop, 0)
			if d.Off() || r.IntN(2) == 0 {
				k := d.Pending()
				k.Names = r.IntN(k.Names + 1)
				for i := range k.Data {
					k.Data[i] = r.IntN(k.Data[i] + 1)
				}
				d.Restart(k)
			}
			got := setOf(w.finds(t, what, d))
			at := slices.IndexFunc(sets, func(p plain) bool { return told(p) == got })
			p = sets[at]
			p.holds(t, what, opened(t, d, c).Ask, int64(c.Fan), []question{{kind: 11}, {kind: 2, trace: lo(1)}, {kind: 7, to: 9}, {kind: 9, to: 9}, {kind: 12, query: `{service = "a"} > {}`}})
		}
	}
}

func copied(p plain) plain {
	c := plain{}
	for _, s := range p {
		c.put(s)
	}
	return c
}

// oneBlock is P23.5: behind a Checkpoint that answered OK.
func oneBlock(t *testing.T, what string, d *disk.Disk, e *engine.Engine) {
	t.Helper()
	names, _ := d.Names()
	names = slices.DeleteFunc(names, func(name string) bool { return !strings.HasPrefix(name, "blk") })
	block, err := vault.Load(d)
	if err != nil || len(names) != 1 || names[0] == "blk.tmp" {
		t.Fatal(what, names, err)
	}
	j, r, err := journal.Open(d.Copy(), 64)
	if err != nil || r.First > block.Through || r.Next < block.Through || len(j.Segments()) < 1 {
		t.Fatal(what, r, block.Through, err)
	}
	for _, k := range append(keeps(d.Pending()), d.Pending()) {
		again, _, err := engine.Open(kept(d, k), small)
		if err != nil || setOf(again) != setOf(e) {
			t.Fatal(what, err)
		}
	}
}

// P23.5, with batches behind the checkpoint that are flushed or not.
func TestCheckpoints(t *testing.T) {
	d := disk.New()
	e, p := opened(t, d, small), plain{}
	for i := step(1); i < 9; i++ {
		before := setOf(e)
		ok(t, "Checkpoint", e.Checkpoint())
		if setOf(e) != before {
			t.Fatal("a checkpoint has changed answers")
		}
		oneBlock(t, fmt.Sprint("ahead of the batch ", i), d, e)
		block, _ := vault.Load(d)
		if block.Through != uint64(i-1) || len(block.Spans) != len(p) {
			t.Fatal(i, block)
		}
		if files, _ := d.Names(); len(files) != 2 {
			t.Fatal(files) // the last file of the journal stays
		}
		ok(t, "a batch", i.on(t, e))
		p.put(i.spans()...)
		ok(t, "Flush", e.Flush())
		oneBlock(t, fmt.Sprint("behind the batch ", i), d, e)
		p.holds(t, "opened anew", opened(t, kept(d, api.Keep{}), small).Ask, 2, questions())
	}
}
