package vault_test

import (
	"bytes"
	"fmt"
	"math/rand/v2"
	"slices"
	"strings"
	"testing"

	"spoor/api"
	"spoor/batch"
	"spoor/disk"
	"spoor/frame"
	"spoor/vault"
)

// plainCut is spans in chunks, by the chapter's words: each one has the longest beginning of what is left that goes into a batch.
func plainCut(l []api.Span) [][]api.Span {
	var chunks [][]api.Span
	for len(l) > 0 {
		n := 1
		for n < len(l) && goesIn(l[:n+1]) {
			n++
		}
		chunks = append(chunks, l[:n])
		l = l[n:]
	}
	return chunks
}

func goesIn(l []api.Span) bool {
	b, err := batch.Encode(l)
	return err == nil && len(l) <= 500 && len(b) <= 65536
}

// big is a span with texts of about so many bytes, none of which another span of this trace has.
func big(id api.SpanID, size int) api.Span {
	s := plainOne(id)
	for i := 0; size > 0; i++ {
		n := min(size, 200)
		text := fmt.Sprintf("%d/%d ", id, i)
		if n >= len(text) {
			text += strings.Repeat("x", n-len(text))
		}
		s.Attrs = append(s.Attrs, api.Attr{Key: fmt.Sprintf("k%02d", i), Value: api.Value{Text: text}})
		size -= n
	}
	return s
}

// greatest has the most bytes that a span can have.
func greatest(id api.SpanID) api.Span {
	s := big(id, 32*200)
	s.Service, s.Op = strings.Repeat("s", 60), strings.Repeat("o", 100)
	for i := range 32 {
		s.Attrs[i].Key += strings.Repeat("y", 37)
		s.Events = append(s.Events, api.Event{At: api.MaxTime, Name: fmt.Sprintf("%050d%050d", id, i)})
	}
	for i := range 16 {
		s.Links = append(s.Links, 1<<63+api.SpanID(i)<<58)
	}
	return s
}

// written is what Save makes of a block; it is held against what the chapter says of its bytes.
func written(t *testing.T, what string, b api.Block) []api.Piece {
	t.Helper()
	d := disk.New()
	saves(t, d, b)
	got := contentOf(t, d, name(b.Through))
	if want := cut(b.Through, plainCut(b.Spans)...); !bytes.Equal(got, want) {
		t.Fatalf("%s: %d bytes that are not the chapter's %d", what, len(got), len(want))
	}
	tells(t, what, d, b)
	pieces, _, _ := frame.Scan(got)
	return pieces
}

func counted(t *testing.T, what string, b api.Block, want int) {
	t.Helper()
	if n := len(written(t, what, b)) - 2; n != want {
		t.Errorf("%s: %d chunks, not %d", what, n, want)
	}
}

// Chunks of small spans have 500 each, but for the last one.
func TestChunksOfManySpans(t *testing.T) {
	l := several(1501)
	for _, c := range []struct{ spans, chunks int }{{0, 0}, {1, 1}, {2, 1}, {499, 1}, {500, 1}, {501, 2}, {999, 2}, {1000, 2}, {1001, 3}, {1501, 4}} {
		counted(t, fmt.Sprint(c.spans, " spans"), block(uint64(c.spans), l[:c.spans]...), c.chunks)
	}
}

// A chunk has just 65536 bytes, or one less; of one more its last span goes into the next one.
func TestChunksOfManyBytes(t *testing.T) {
	var l []api.Span
	size := func(more api.Span) int { return len(batched(append(slices.Clone(l), more)...)) }
	for size(big(api.SpanID(len(l)+1), 300)) < 65000 {
		l = append(l, big(api.SpanID(len(l)+1), 300))
	}
	last := plainOne(api.SpanID(len(l) + 1))
	last.Attrs = keyed(65450 - size(last))
	last.Op = "!"
	short := 65536 - size(last)
	if short < 1 || short > 90 {
		t.Fatal(short)
	}
	for more := -1; more <= 1; more++ {
		last.Op = strings.Repeat("!", 1+short+more)
		all := append(slices.Clone(l), last)
		b, err := batch.Encode(all)
		if (err == nil) != (more <= 0) || err == nil && len(b) != 65536+more {
			t.Fatal(more, len(b), err)
		}
		want := 1
		if more > 0 {
			want = 2
		}
		counted(t, fmt.Sprint(65536+more, " bytes"), block(1, all...), want)
		counted(t, fmt.Sprint(65536+more, " bytes, and a span"), block(1, append(all, plainOne(last.ID+1))...), 2)
	}
}

// keyed are attributes of about so many bytes.
func keyed(size int) []api.Attr {
	var l []api.Attr
	for i := 0; size > 0; i++ {
		key := fmt.Sprintf("z%02d", i) + strings.Repeat("z", 27)
		l = append(l, api.Attr{Key: key, Value: api.Value{Kind: api.Bool}})
		size -= 34
	}
	return l
}

// A chunk of the greatest spans has few; one always goes in.
func TestChunksOfTheGreatestSpans(t *testing.T) {
	var l []api.Span
	for id := range api.SpanID(23) {
		l = append(l, greatest(id+1))
	}
	if n := len(batched(l[0])); n < 11000 || n > 65536 {
		t.Fatalf("the greatest one has %d bytes", n)
	}
	for n := range len(l) {
		written(t, fmt.Sprint(n, " of the greatest"), block(1, l[:n+1]...))
	}
}

// However great and small spans stand beside one another, each chunk has the longest beginning.
func TestChunksOfAllSizes(t *testing.T) {
	for seed := range uint64(20) {
		r := rand.New(rand.NewPCG(205, seed))
		var l []api.Span
		for range 1 + r.IntN(6) {
			size := []int{0, 0, 30, 130, 150, 500, 1500, 6400}[r.IntN(8)]
			for range r.IntN(min(700, 1+200000/(size+100))) {
				id := api.SpanID(len(l) + 1)
				if size == 6400 {
					l = append(l, greatest(id))
				} else {
					l = append(l, big(id, size/2+r.IntN(size+1)))
				}
			}
		}
		written(t, fmt.Sprint("row ", seed), block(seed, l...))
	}
}

// Texts that stand in several spans count once: what is long alone may go in with the others.
func TestChunksShareTexts(t *testing.T) {
	var l []api.Span
	for id := range api.SpanID(900) {
		s := big(1, 600)
		s.ID = id + 1
		l = append(l, s)
	}
	counted(t, "spans of the same texts", block(3, l...), 2)
}

// Heads and feet say the block's number, how many spans there are, and how many chunks, or the sum.
func TestHeadAndFoot(t *testing.T) {
	for _, through := range []uint64{0, 1, 255, 1 << 40, 1<<63 + 5, 1<<64 - 1} {
		for _, n := range []int{0, 1, 300, 700, 1200} {
			pieces := written(t, "a block", block(through, several(n)...))
			last := len(pieces) - 1
			for i, p := range pieces {
				kind, seq := 4, uint64(i-1)
				switch i {
				case 0:
					kind, seq = 3, through
				case last:
					kind, seq = 5, through
				}
				if p.Kind != kind || p.Seq != seq || kind != 4 && p.Length != 8 {
					t.Errorf("%d spans: the frame %d is %+v", n, i, p)
				}
			}
		}
	}
}

// P20.5: the same block has the same bytes, whatever was there ahead, and however its empty lists are told.
func TestOneForm(t *testing.T) {
	l := append(several(40), richOne(api.TraceID{Hi: 1}, 1), greatest(1))
	l[41].Trace = api.TraceID{Hi: 2}
	fresh := disk.New()
	saves(t, fresh, block(6, l...))
	want := contentOf(t, fresh, name(6))
	again := slices.Clone(l)
	for i := range 40 {
		again[i].Links, again[i].Attrs, again[i].Events = []api.SpanID{}, []api.Attr{}, []api.Event{}
	}
	used := disk.New()
	saves(t, used, block(6, ones(1)...))
	saves(t, used, block(9, ones(2)...))
	lay(t, used, "blk.tmp", []byte("x"))
	saves(t, used, block(6, again...))
	if !bytes.Equal(contentOf(t, used, name(6)), want) {
		t.Error("two forms of one block")
	}
	told := disk.New()
	b, err := vault.Load(fresh)
	if err != nil {
		t.Fatal(err)
	}
	saves(t, told, b)
	if !bytes.Equal(contentOf(t, told, name(6)), want) {
		t.Error("what Load told is written in another form")
	}
}
