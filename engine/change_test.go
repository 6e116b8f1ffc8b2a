package engine_test

import (
	"fmt"
	"testing"

	"spoor/api"
	"spoor/disk"
	"spoor/engine"
	"spoor/journal"
	"spoor/vault"
)

// bare does to a disk what the chapter says that an engine does, and nothing besides.
type bare struct {
	d     *disk.Disk
	j     *journal.Journal
	spans plain
	sick  bool
}

func newBare(t *testing.T, d *disk.Disk) *bare {
	t.Helper()
	j, _, err := journal.Open(d, 64)
	if err != nil {
		t.Fatal(err)
	}
	return &bare{d: d, j: j, spans: plain{}}
}

func (b *bare) sicken(n api.Errno) api.Errno {
	b.sick = n != api.OK
	return n
}

func (b *bare) ingest(payload []byte, l []api.Span) api.Errno {
	if b.sick {
		return api.ErrEngineSick
	}
	_, n := b.j.Append(payload)
	if n == api.OK {
		b.spans.put(l...)
	}
	return b.sicken(n)
}

func (b *bare) flush() api.Errno {
	if b.sick {
		return api.ErrEngineSick
	}
	return b.sicken(b.j.Flush())
}

func (b *bare) checkpoint() api.Errno {
	if n := b.flush(); n != api.OK {
		return n
	}
	block := api.Block{Through: b.j.Next()}
	for _, t := range b.spans.traces() {
		block.Spans = append(block.Spans, b.spans.trace(t)...)
	}
	if n := vault.Save(b.d, block); n != api.OK {
		return n
	}
	if _, n := vault.Clean(b.d); n != api.OK {
		return n
	}
	_, n := b.j.Drop(block.Through)
	return b.sicken(n)
}

// step is a call: a batch of a span (its ID), a flush (0) or a checkpoint (-1).
type step int

// steps go through files, blocks and what is flushed in all ways: two checkpoints, one of them of nothing new.
var steps = []step{1, 2, 0, 3, -1, 4, 5, 6, -1, -1, 7, 0, 8}

func (s step) spans() []api.Span {
	id := api.SpanID(s)
	return []api.Span{one(1+uint64(s)%2, id, id-1, []string{"a", "b", "c"}[s%3], int64(s), 100), one(9, 1, 0, "a", 0, 10+int64(s))}
}

func (s step) on(t *testing.T, e *engine.Engine) api.Errno {
	switch {
	case s < 0:
		return e.Checkpoint()
	case s == 0:
		return e.Flush()
	}
	_, err := e.Ingest(coded(t, s.spans()...))
	return number(err)
}

func (s step) onBare(t *testing.T, b *bare) api.Errno {
	switch {
	case s < 0:
		return b.checkpoint()
	case s == 0:
		return b.flush()
	}
	return b.ingest(coded(t, s.spans()...), s.spans())
}

// arms calls for each way in which a change can be refused, n changes from now, till call says that none was.
func arms(call func(what string, n int, how api.How, units int) bool) {
	for _, how := range []api.How{api.Stop, api.Fail} {
		for _, units := range []int{0, 1, 24, 31, 60, 100000} {
			for n := 1; call(fmt.Sprint("armed with ", n, ", ", how, ", ", units), n, how, units); n++ {
			}
		}
	}
}

// E2, E3: an engine makes just the changes that the chapter says, in their order, stops at the first one that is refused, with its error, and is sick behind one of the journal's alone.
func TestChanges(t *testing.T) {
	arms(func(what string, n int, how api.How, units int) bool {
		d, other := disk.New(), disk.New()
		e, b := opened(t, d, small), newBare(t, other)
		d.Arm(n, how, units)
		other.Arm(n, how, units)
		refused := false
		for i, s := range steps {
			got, want := s.on(t, e), s.onBare(t, b)
			if got != want || e.Sick() != b.sick || disked(d) != disked(other) {
				t.Fatalf("%s, step %d: %v (sick: %v), not %v (%v)", what, i, got, e.Sick(), want, b.sick)
			}
			refused = refused || got != api.OK
			b.spans.holds(t, what, e.Ask, 2, []question{{kind: 1, trace: lo(1)}, {kind: 1, trace: lo(2)}, {kind: 1, trace: lo(9)}, {kind: 11}})
		}
		return refused
	})
}

// A Checkpoint that Save or Clean refuses leaves the engine as it was, and a later one begins anew; one that the journal refuses makes it sick.
func TestRefusedCheckpoint(t *testing.T) {
	sick := map[bool]int{}
	arms(func(what string, n int, how api.How, units int) bool {
		d := disk.New()
		e := opened(t, d, small)
		for _, s := range []step{1, 2, -1, 3, 4} {
			ok(t, what, s.on(t, e))
		}
		before := setOf(e)
		d.Arm(n, how, units)
		got := e.Checkpoint()
		d.Arm(0, how, 0)
		if setOf(e) != before {
			t.Fatal(what, "a checkpoint has changed answers")
		}
		if got == api.OK {
			return false
		}
		if got != api.ErrDiskFail && got != api.ErrDiskOff {
			t.Fatal(what, got)
		}
		sick[e.Sick()]++
		if e.Sick() {
			if e.Checkpoint() != api.ErrEngineSick || e.Flush() != api.ErrEngineSick {
				t.Fatal(what, "a sick one goes on")
			}
			return true
		}
		if how == api.Stop {
			if e.Checkpoint() != api.ErrDiskOff || !e.Sick() { // its Flush
				t.Fatal(what, "goes on without power")
			}
			return true
		}
		ok(t, what, step(5).on(t, e))
		ok(t, what, e.Checkpoint())
		oneBlock(t, what, d, e)
		return true
	})
	if sick[true] == 0 || sick[false] == 0 {
		t.Error("all ways were not gone", sick)
	}
}

// A sick engine takes nothing, whatever made it so, and answers all the same.
func TestSick(t *testing.T) {
	for what, do := range map[string]func(e *engine.Engine) api.Errno{
		"Ingest":     func(e *engine.Engine) api.Errno { return step(3).on(t, e) },
		"Flush":      func(e *engine.Engine) api.Errno { return e.Flush() },
		"Checkpoint": func(e *engine.Engine) api.Errno { return e.Checkpoint() },
	} {
		d := disk.New()
		e := opened(t, d, small)
		e.Watch(parsed(t, `{}`), 3)
		takes(t, e, step(1).spans()...)
		before := setOf(e)
		d.Arm(1, api.Fail, 1)
		if n := do(e); n != api.ErrDiskFail || !e.Sick() {
			t.Fatal(what, n)
		}
		files := disked(d)
		_, err := e.Ingest([]byte("x"))
		refused(t, what, err, 1, api.ErrEngineSick)
		if e.Flush() != api.ErrEngineSick || e.Checkpoint() != api.ErrEngineSick || setOf(e) != before || disked(d) != files {
			t.Fatal(what, "a sick one has done something")
		}
		took(t, e, 0, 9, 0, api.Hit{Trace: lo(2), ID: 1}, api.Hit{Trace: lo(9), ID: 1})
		if w, n := e.Watch(parsed(t, `{}`), 3); w != 1 || n != api.OK || e.Unwatch(0) != api.OK {
			t.Fatal(what, "a sick one has no watches")
		}
		if l, n := e.Search(parsed(t, `{}`), nil); len(l) != 2 || n != api.OK {
			t.Fatal(what, l, n)
		}
	}
}
