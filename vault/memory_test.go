package vault_test

import (
	"reflect"
	"slices"
	"testing"

	"spoor/api"
	"spoor/disk"
	"spoor/span"
	"spoor/vault"
)

// roomy is a list with spare room behind it, in which something stands.
func roomy[T any](l []T, spare T) []T {
	return slices.Repeat([]T{spare}, len(l)+3)[:0]
}

// withRoom is spans, all of whose lists have spare room.
func withRoom(l []api.Span) []api.Span {
	out := roomy(l, api.Span{Op: "spare"})
	for _, s := range l {
		s.Links = append(roomy(s.Links, api.SpanID(77)), s.Links...)
		s.Attrs = append(roomy(s.Attrs, api.Attr{Key: "spare"}), s.Attrs...)
		s.Events = append(roomy(s.Events, api.Event{Name: "spare"}), s.Events...)
		out = append(out, s)
	}
	return out
}

// scribble writes into all lists of spans, and into their spare room.
func scribble(l []api.Span) {
	for _, s := range l {
		for i := range s.Links[:cap(s.Links)] {
			s.Links[:cap(s.Links)][i] = 99
		}
		for i := range s.Attrs[:cap(s.Attrs)] {
			s.Attrs[:cap(s.Attrs)][i] = api.Attr{Key: "scribble"}
		}
		for i := range s.Events[:cap(s.Events)] {
			s.Events[:cap(s.Events)][i] = api.Event{Name: "scribble"}
		}
	}
	for i := range l[:cap(l)] {
		l[:cap(l)][i] = api.Span{Op: "scribble"}
	}
}

// whole is all of a list, its spare room too.
func whole(l []api.Span) []api.Span {
	out := slices.Clone(l[:cap(l)])
	for i := range out {
		out[i].Links = slices.Clone(out[i].Links[:cap(out[i].Links)])
		out[i].Attrs = slices.Clone(out[i].Attrs[:cap(out[i].Attrs)])
		out[i].Events = slices.Clone(out[i].Events[:cap(out[i].Events)])
	}
	return out
}

func rich() []api.Span {
	return []api.Span{plainOne(1), richOne(api.TraceID{Hi: 1}, 1), richOne(api.TraceID{Hi: 1}, 2), richOne(api.TraceID{Hi: 2}, 2)}
}

// What is handed to Save is neither written into nor kept.
func TestSaveKeepsNothing(t *testing.T) {
	for _, l := range [][]api.Span{rich(), several(800)} {
		want := make([]api.Span, len(l))
		for i, s := range l {
			want[i] = span.Clone(s)
		}
		in := withRoom(l)
		before := whole(in)
		d := disk.New()
		saves(t, d, block(5, in...))
		saves(t, d, api.Block{Through: 6, Spans: in})
		if !reflect.DeepEqual(whole(in), before) {
			t.Fatal("Save has written into what it was handed")
		}
		scribble(in)
		tells(t, "what was written over since", d, block(6, want...))
		in = withRoom(append(slices.Clone(l), plainOne(1)))
		before = whole(in)
		if e := vault.Save(d, api.Block{Through: 7, Spans: in}); e != api.ErrVaultOrder || !reflect.DeepEqual(whole(in), before) {
			t.Fatal(e)
		}
	}
}

// What Load tells is the caller's: what is written into it, and into its spare room, is seen nowhere else.
func TestLoadIsNew(t *testing.T) {
	d := disk.New()
	want := block(5, append(rich(), plainAt(api.TraceID{Hi: 3}, 1))...)
	saves(t, d, want)
	before := contents(d)
	one, err := vault.Load(d)
	other, err2 := vault.Load(d)
	if err != nil || err2 != nil {
		t.Fatal(err, err2)
	}
	for i, s := range one.Spans {
		rest := one.Spans[i+1:]
		keep := whole(rest)
		scribble([]api.Span{s})
		if !reflect.DeepEqual(whole(rest), keep) {
			t.Fatalf("the span %d shares memory with others", i)
		}
	}
	scribble(one.Spans)
	if !sameBlock(other, want) || contents(d) != before {
		t.Error("two answers share memory")
	}
	tells(t, "what was told ahead", d, want)
}

// An error's memory is the caller's too.
func TestFaultsAreApart(t *testing.T) {
	d := disk.New()
	saves(t, d, block(5, ones(1)...))
	d.Flip(name(5), 40, 1)
	want := api.FileFault{Name: name(5), At: 32, Err: api.ErrVaultSpoilt}
	_, err := vault.Load(d)
	*err.(*api.FileFault) = api.FileFault{}
	refuses(t, "a spoilt block", d, want)
	_, err = vault.Load(nil)
	*err.(*api.FileFault) = api.FileFault{At: 9}
	refuses(t, "no disk", nil, api.FileFault{Err: api.ErrArg})
}

// Disks have nothing to do with one another, and nothing is kept from call to call.
func TestDisksAreApart(t *testing.T) {
	a, b := disk.New(), disk.New()
	saves(t, a, block(9, ones(1)...))
	saves(t, b, block(5, ones(2)...))
	c := a.Copy()
	saves(t, c, block(10, ones(3)...))
	tells(t, "the first disk", a, block(9, ones(1)...))
	tells(t, "the second disk", b, block(5, ones(2)...))
	tells(t, "the copy", c, block(10, ones(3)...))
	a.Remove(name(9))
	tells(t, "a disk whose block is gone", a, api.Block{})
	lay(t, a, name(2), cut(2, ones(4)))
	tells(t, "a disk with another block", a, block(2, ones(4)...))
}
