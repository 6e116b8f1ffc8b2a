package vault_test

import (
	"bytes"
	"fmt"
	"math/rand/v2"
	"slices"
	"testing"

	"spoor/api"
	"spoor/disk"
	"spoor/frame"
	"spoor/vault"
)

func cat(parts ...[]byte) []byte { return bytes.Join(parts, nil) }

// turned is bytes of which the one at a place is another one.
func turned(b []byte, at int) []byte {
	b = bytes.Clone(b)
	b[at] ^= 4
	return b
}

// headed is the head of the block 5.
func headed(spans, chunks uint32) []byte { return framed(3, 5, two(spans, chunks)) }

func chunk(seq uint64, l ...api.Span) []byte { return framed(4, seq, batched(l...)) }

// Each way in which the file of the block 5 is spoilt, with its place; where several hold, that of the first frame.
func TestSpoilt(t *testing.T) {
	whole := cut(5, ones(1), ones(2)) // frames at 0, 32, 107, 182; 214 bytes
	if len(whole) != 214 {
		t.Fatal(len(whole))
	}
	one, other := chunk(0, plainOne(1)), chunk(1, plainOne(2))
	head := headed(2, 2)
	ahead := cat(head, one, other)
	sum := frame.Sum(ahead)
	late := with(plainOne(1), func(s *api.Span) { s.End = 10 })
	badID := batched(ones(2)...)
	copy(badID[bytes.Index(badID, []byte{0, 0, 0, 0, 0, 0, 0, 2}):], make([]byte, 8))
	for _, c := range []struct {
		what string
		b    []byte
		at   int
	}{
		{"bytes cut off in the head", whole[:31], 0},
		{"bytes cut off in a head's head", whole[:3], 0},
		{"bytes cut off in a chunk", whole[:106], 32},
		{"bytes cut off in the foot", whole[:213], 182},
		{"a byte too many", cat(whole, []byte("S")), 214},
		{"24 noughts too many", cat(whole, make([]byte, 24)), 214},
		{"a turned head", turned(whole, 5), 0},
		{"a turned payload of the head", turned(whole, 27), 0},
		{"a turned chunk", turned(whole, 110), 107},
		{"a turned foot", turned(whole, 213), 182},
		{"a wrong head ahead of a turned chunk", cat(framed(3, 6, two(2, 2)), turned(one, 40), other), 32},
		{"a wrong chunk ahead of a torn foot", cat(head, chunk(3, plainOne(1)), other, framed(5, 5, two(2, 0))[:20]), 182},

		{"nothing", nil, 0},
		{"a first frame of kind 4", footed(5, 2, framed(4, 5, two(2, 2)), one, other), 0},
		{"a first frame of kind 1", footed(5, 2, framed(1, 5, two(2, 2)), one, other), 0},
		{"a head of another number", footed(5, 2, framed(3, 4, two(2, 2)), one, other), 0},
		{"a block of another number", cut(6, ones(1), ones(2)), 0},
		{"a head without bytes", footed(5, 2, framed(3, 5, nil), one, other), 0},
		{"a head of 7 bytes", footed(5, 2, framed(3, 5, two(2, 2)[:7]), one, other), 0},
		{"a head of 9 bytes", footed(5, 2, framed(3, 5, append(two(2, 2), 0)), one, other), 0},
		{"a head of 16 bytes", footed(5, 2, framed(3, 5, append(two(2, 2), two(2, 2)...)), one, other), 0},
		{"100001 spans", footed(5, 100001, headed(100001, 2), one, other), 0},
		{"2^32 - 1 spans", footed(5, 1<<32-1, headed(1<<32-1, 2), one, other), 0},
		{"100001 spans, and wrong chunks", cat(headed(100001, 2), other, other), 0},
		{"no head", footed(5, 2, one, other), 0},

		{"no chunk, and no foot", head, 32},
		{"a chunk of kind 3", footed(5, 2, head, framed(3, 0, batched(ones(1)...)), other), 32},
		{"a chunk of kind 5", footed(5, 2, head, one, framed(5, 1, batched(ones(2)...))), 107},
		{"a chunk of kind 9", footed(5, 2, head, one, framed(9, 1, batched(ones(2)...))), 107},
		{"chunks numbered from 1 on", footed(5, 2, head, chunk(1, plainOne(1)), chunk(2, plainOne(2))), 32},
		{"a chunk left out", footed(5, 2, head, one, chunk(2, plainOne(2))), 107},
		{"a number twice", footed(5, 2, head, one, chunk(0, plainOne(2))), 107},
		{"a chunk of the block's number", footed(5, 2, head, one, chunk(5, plainOne(2))), 107},
		{"a chunk without bytes", footed(5, 2, head, one, framed(4, 1, nil)), 107},
		{"a chunk that is no batch", footed(5, 2, head, one, framed(4, 1, []byte("SB\x02"))), 107},
		{"a batch and a byte", footed(5, 2, head, one, framed(4, 1, append(batched(ones(2)...), 0))), 107},
		{"a batch less a byte", footed(5, 2, head, one, framed(4, 1, batched(ones(2)...)[:50])), 107},
		{"a batch of a span that may not be", footed(5, 2, head, one, framed(4, 1, badID)), 107},
		{"a batch that is too long", footed(5, 2, head, one, framed(4, 1, make([]byte, 70000))), 107},
		{"a chunk of no spans", footed(5, 1, headed(1, 2), one, framed(4, 1, batched())), 107},
		{"a chunk of no spans alone", footed(5, 0, headed(0, 1), framed(4, 0, batched())), 32},
		{"falling spans in a chunk", footed(5, 2, headed(2, 1), chunk(0, plainOne(2), plainOne(1))), 32},
		{"falling spans in the second chunk", footed(5, 3, headed(3, 2), one, chunk(1, plainOne(3), plainOne(2))), 107},
		{"the same span twice in a chunk", footed(5, 2, headed(2, 1), chunk(0, plainOne(1), plainOne(1))), 32},
		{"one name twice in a chunk", footed(5, 2, headed(2, 1), chunk(0, plainOne(1), late)), 32},
		{"falling chunks", footed(5, 2, head, chunk(0, plainOne(2)), chunk(1, plainOne(1))), 107},
		{"the same span in two chunks", footed(5, 2, head, one, chunk(1, plainOne(1))), 107},
		{"one name in two chunks", footed(5, 2, head, one, chunk(1, late)), 107},
		{"falling traces", footed(5, 2, head, chunk(0, plainAt(api.TraceID{Hi: 1, Lo: 1}, 1)), chunk(1, plainOne(2))), 107},
		{"a wrong chunk ahead of a wrong one", footed(5, 2, head, chunk(1, plainOne(1)), other, other), 32},
		{"a wrong chunk ahead of a wrong foot", cat(head, one, one, framed(5, 4, nil)), 107},
		{"a foot in a chunk's place", footed(5, 1, head, one), 107},
		{"one chunk less", cat(head, one), 107},
		{"as many chunks as there may be", footed(5, 2, headed(2, 1<<32-1), one, other), 182},
		{"as many chunks as there may be, and no foot", cat(headed(2, 1<<32-1), one, other), 182},

		{"no foot", ahead, 182},
		{"no foot of a block of nothing", headed(0, 0), 32},
		{"a chunk in the foot's place", footed(5, 3, ahead, chunk(2, plainOne(3))), 182},
		{"a foot of kind 3", cat(ahead, framed(3, 5, two(2, sum))), 182},
		{"a foot of kind 4", cat(ahead, framed(4, 5, two(2, sum))), 182},
		{"a foot of kind 6", cat(ahead, framed(6, 5, two(2, sum))), 182},
		{"a foot of another number", cat(ahead, framed(5, 6, two(2, sum))), 182},
		{"a foot of the number of chunks", cat(ahead, framed(5, 2, two(2, sum))), 182},
		{"a foot without bytes", cat(ahead, framed(5, 5, nil)), 182},
		{"a foot of 7 bytes", cat(ahead, framed(5, 5, two(2, sum)[:7])), 182},
		{"a foot of 9 bytes", cat(ahead, framed(5, 5, append(two(2, sum), 0))), 182},
		{"a foot that says fewer spans", cat(ahead, framed(5, 5, two(1, sum))), 182},
		{"a foot that says more spans", cat(ahead, framed(5, 5, two(3, sum))), 182},
		{"a foot that says the head's number, which is too small", footed(5, 1, headed(1, 2), one, other), 182},
		{"a foot that says the head's number, which is too great", footed(5, 3, headed(3, 2), one, other), 182},
		{"a foot that says how many there are, unlike the head", footed(5, 2, headed(3, 2), one, other), 182},
		{"a head that says 2^16 more", footed(5, 1<<16+2, headed(1<<16+2, 2), one, other), 182},
		{"a foot of another sum", cat(ahead, framed(5, 5, two(2, sum+1))), 182},
		{"a foot whose sum has its lowest byte first", cat(ahead, framed(5, 5, cat(two(2, 0)[:4], []byte{byte(sum), byte(sum >> 8), byte(sum >> 16), byte(sum >> 24)}))), 182},
		{"a foot with the sum of the chunks alone", cat(ahead, framed(5, 5, two(2, frame.Sum(ahead[32:])))), 182},
		{"a foot of nothing with the sum of nothing", cat(headed(0, 0), framed(5, 5, two(0, 0))), 32},

		{"a second foot", cat(whole, framed(5, 5, two(2, frame.Sum(whole)))), 214},
		{"a head behind the foot", cat(whole, head), 214},
		{"a chunk behind the foot", cat(whole, chunk(2, plainOne(3))), 214},
		{"two frames behind the foot", cat(whole, one, other), 214},
		{"two blocks", cat(whole, whole), 214},
		{"no chunks by the head", footed(5, 0, headed(0, 0), one, other), 32},
	} {
		d := disk.New()
		saves(t, d, block(4, ones(9)...))
		lay(t, d, name(5), c.b)
		unchanged(t, c.what, d, func() {
			refuses(t, c.what, d, api.FileFault{Name: name(5), At: c.at, Err: api.ErrVaultSpoilt})
		})
		loadsAlike(t, c.what, d)
	}
}

// What is not spoilt, though Save would not write it so: how spans were cut into chunks is not asked.
func TestNotSpoilt(t *testing.T) {
	for _, c := range []struct {
		what   string
		chunks [][]api.Span
	}{
		{"no chunks", nil},
		{"one each", [][]api.Span{ones(1), ones(2), ones(3), ones(4)}},
		{"two and two", [][]api.Span{ones(1, 2), ones(3, 4)}},
		{"one and many", [][]api.Span{ones(1), several(501)[1:]}},
		{"a trace in two chunks", [][]api.Span{{plainOne(5)}, {plainOne(6), plainAt(api.TraceID{Lo: 8}, 1)}, {plainAt(api.TraceID{Hi: 1}, 1)}}},
	} {
		d := disk.New()
		lay(t, d, name(5), cut(5, c.chunks...))
		tells(t, c.what, d, block(5, slices.Concat(c.chunks...)...))
		loadsAlike(t, c.what, d)
	}
}

// A head may say 100000 spans; more of them than it says are told of the foot, however many.
func TestManySpansInAFile(t *testing.T) {
	var chunks [][]api.Span
	all := several(100001)
	for l := all; len(l) > 0; l = l[min(500, len(l)):] {
		chunks = append(chunks, l[:min(500, len(l))])
	}
	d := disk.New()
	lay(t, d, name(1), cut(1, chunks[:200]...))
	tells(t, "100000 spans", d, block(1, all[:100000]...))
	lay(t, d, name(2), cut(2, chunks...))
	refuses(t, "100001 spans", d, api.FileFault{Name: name(2), At: 0, Err: api.ErrVaultSpoilt})
	ahead := framed(3, 3, two(100000, 201))
	for i, c := range chunks {
		ahead = append(ahead, chunk(uint64(i), c...)...)
	}
	lay(t, d, name(3), footed(3, 100000, ahead))
	refuses(t, "100001 spans, of which the head says 100000", d, api.FileFault{Name: name(3), At: len(ahead), Err: api.ErrVaultSpoilt})
}

// befallen is a block's frames, to which something or nothing has happened.
func befallen(r *rand.Rand, l [][]byte) []byte {
	l = slices.Clone(l)
	if len(l) == 0 {
		return nil
	}
	i, j := r.IntN(len(l)), r.IntN(len(l))
	b := l[i]
	kind, seq, payload := int(b[3]), uint64(b[11]), bytes.Clone(b[24:])
	switch r.IntN(9) {
	case 0:
		l = slices.Delete(l, i, i+1)
	case 1:
		l = slices.Insert(l, j, b)
	case 2:
		l[i], l[j] = l[j], l[i]
	case 3:
		l[i] = framed(1+r.IntN(9), seq, payload)
	case 4:
		l[i] = framed(kind, uint64(r.IntN(7)), payload)
	case 5:
		l[i] = framed(kind, seq, payload[:r.IntN(len(payload)+1)])
	case 6:
		if len(payload) > 0 {
			payload[r.IntN(len(payload))] ^= byte(1 << r.IntN(8))
		}
		l[i] = framed(kind, seq, payload)
	case 7:
		l[i] = turned(b, r.IntN(len(b)))
	}
	out := cat(l...)
	if r.IntN(8) == 0 {
		out = out[:r.IntN(len(out)+1)]
	}
	return out
}

// Load of frames of all kinds tells what the chapter's words do, step by step.
func TestPlainLoad(t *testing.T) {
	told := map[bool]int{}
	for seed := range uint64(20000) {
		r := rand.New(rand.NewPCG(204, seed))
		spans := someSpans(r)
		var chunks [][]api.Span
		for l := spans; len(l) > 0; {
			n := 1 + r.IntN(len(l))
			chunks, l = append(chunks, l[:n]), l[n:]
		}
		if r.IntN(6) == 0 {
			r.Shuffle(len(chunks), func(i, j int) { chunks[i], chunks[j] = chunks[j], chunks[i] })
		}
		b := cut(5, chunks...)
		pieces, _, _ := frame.Scan(b)
		var l [][]byte
		for _, p := range pieces {
			l = append(l, b[p.At-24:p.At+p.Length])
		}
		b = befallen(r, l)
		if r.IntN(2) == 0 { // a foot whose sum is right, whatever stands ahead of it
			n := uint32(len(spans))
			b = footed(5, n, b[:max(len(b)-32, 0)])
		}
		d := disk.New()
		lay(t, d, name(5), b)
		loadsAlike(t, fmt.Sprint("row ", seed), d)
		_, err := vault.Load(d)
		told[err == nil]++
	}
	if told[true] < 1000 || told[false] < 1000 {
		t.Error(told)
	}
}

// P20.4: bits that are turned, all within 32 within one frame, are told at the place where that frame begins.
func TestTurnedBits(t *testing.T) {
	great := []api.Span{greatest(1), greatest(2), greatest(3), greatest(4), greatest(5), greatest(6), greatest(7)}
	for _, b := range []api.Block{block(5), block(5, ones(1)...), block(1<<64-1, richOne(api.TraceID{Hi: 1}, 1), richOne(api.TraceID{Hi: 2}, 1)), block(3, great...)} {
		d := disk.New()
		saves(t, d, b)
		whole := contentOf(t, d, name(b.Through))
		pieces, _, _ := frame.Scan(whole)
		for _, p := range pieces {
			from, to := p.At-24, p.At+p.Length
			every := 1 + (to-from)/200
			for bit := 8 * from; bit < 8*to; bit += every {
				turnsBits(t, d, b.Through, from, []int{bit})
			}
			r := rand.New(rand.NewPCG(204, uint64(from)))
			for range 300 {
				first := 8*from + r.IntN(8*(to-from))
				bits := []int{first}
				for x := first + 1; x < min(first+32, 8*to); x++ {
					if r.IntN(2) == 0 {
						bits = append(bits, x)
					}
				}
				turnsBits(t, d, b.Through, from, bits)
			}
		}
	}
}

// turnsBits turns them, looks, and turns them back.
func turnsBits(t *testing.T, d *disk.Disk, through uint64, from int, bits []int) {
	t.Helper()
	flip := func() {
		for _, b := range bits {
			if e := d.Flip(name(through), b/8, 1<<(b%8)); e != api.OK {
				t.Fatal(e)
			}
		}
	}
	flip()
	b, err := vault.Load(d)
	f, is := err.(*api.FileFault)
	if !is || *f != (api.FileFault{Name: name(through), At: from, Err: api.ErrVaultSpoilt}) || len(b.Spans) != 0 {
		t.Fatalf("the bits %v turned: %v; not spoilt at %d", bits, err, from)
	}
	flip()
}
