package frame_test

import (
	"bytes"
	"fmt"
	"hash/crc32"
	"math"
	"math/big"
	"math/rand"
	"slices"
	"testing"

	"spoor/api"
	"spoor/frame"
)

const headLength = 24

// made is a frame that Make must not refuse.
func made(t *testing.T, kind int, seq uint64, payload string) []byte {
	t.Helper()
	b, e := frame.Make(kind, seq, []byte(payload))
	if e != api.OK {
		t.Fatalf("Make of %d, %d, %d bytes: %v", kind, seq, len(payload), e)
	}
	return b
}

// scans holds what Scan answers against what it should.
func scans(t *testing.T, what string, b []byte, pieces []api.Piece, end int, e api.Errno) {
	t.Helper()
	gotPieces, gotEnd, got := frame.Scan(b)
	if !slices.Equal(gotPieces, pieces) || gotEnd != end || got != e {
		t.Errorf("Scan of %s: %v, %d, %d; not %v, %d, %d", what, gotPieces, gotEnd, got, pieces, end, e)
	}
}

// bitSum is the sum by the chapter's words, bit by bit, from the sum of what stands ahead on.
func bitSum(ahead uint32, b []byte) uint32 {
	state := ^ahead
	for _, c := range b {
		state ^= uint32(c)
		for range 8 {
			fell := state & 1
			state >>= 1
			if fell == 1 {
				state ^= 0x82f63b78
			}
		}
	}
	return ^state
}

// dividedSum is the sum as the rest of a division: the bits, with the first 32 turned and 32 noughts behind them, by the divisor; the rest's bits turned, and told in the order of the bits.
func dividedSum(b []byte) uint32 {
	n := 8*len(b) + 32
	poly := new(big.Int)
	for i := range 8 * len(b) {
		poly.SetBit(poly, n-1-i, uint(b[i/8]>>(i%8)&1))
	}
	for i := range 32 {
		poly.SetBit(poly, n-1-i, poly.Bit(n-1-i)^1)
	}
	by := big.NewInt(1<<32 | 0x1edc6f41)
	for power := n - 1; power >= 32; power-- {
		if poly.Bit(power) == 1 {
			poly.Xor(poly, new(big.Int).Lsh(by, uint(power-32)))
		}
	}
	sum := uint32(0)
	for i := range 32 {
		sum |= uint32(poly.Bit(31-i)^1) << i
	}
	return sum
}

// headOf lays a head down byte by byte, with a right sum behind whatever is asked for.
func headOf(mark string, kind byte, seq uint64, length, sum uint32) []byte {
	b := []byte{mark[0], mark[1], mark[2], kind,
		byte(seq >> 56), byte(seq >> 48), byte(seq >> 40), byte(seq >> 32), byte(seq >> 24), byte(seq >> 16), byte(seq >> 8), byte(seq),
		byte(length >> 24), byte(length >> 16), byte(length >> 8), byte(length),
		byte(sum), byte(sum >> 8), byte(sum >> 16), byte(sum >> 24)}
	own := bitSum(0, b)
	return append(b, byte(own), byte(own>>8), byte(own>>16), byte(own>>24))
}

// wordScan is Scan by the chapter's words, that asks each head's bytes one by one.
func wordScan(b []byte) (pieces []api.Piece, place int, e api.Errno) {
	for {
		rest := b[place:]
		if len(rest) == 0 {
			return pieces, place, api.OK
		}
		if len(rest) < 24 {
			return pieces, place, api.ErrFrameTorn
		}
		kind, seq, length := rest[3], uint64(0), uint32(0)
		for _, c := range rest[4:12] {
			seq = seq*256 + uint64(c)
		}
		for _, c := range rest[12:16] {
			length = length*256 + uint32(c)
		}
		sum := uint32(rest[16]) + uint32(rest[17])<<8 + uint32(rest[18])<<16 + uint32(rest[19])<<24
		if kind < 1 || kind > 9 || length > 1048576 || !bytes.Equal(rest[:24], headOf("SPR", kind, seq, length, sum)) {
			return pieces, place, api.ErrFrameHead
		}
		if uint64(len(rest)-24) < uint64(length) {
			return pieces, place, api.ErrFrameTorn
		}
		if bitSum(0, rest[24:24+length]) != sum {
			return pieces, place, api.ErrFrameSum
		}
		pieces = append(pieces, api.Piece{Kind: int(kind), Seq: seq, At: place + 24, Length: int(length)})
		place += 24 + int(length)
	}
}

// row is frames one behind the other, what Scan tells of them, and where each begins (and the last one ends).
type row struct {
	all    []byte
	pieces []api.Piece
	starts []int
}

func (r *row) put(t *testing.T, kind int, seq uint64, payload string) {
	t.Helper()
	b := made(t, kind, seq, payload)
	r.starts = append(r.starts, len(r.all))
	r.pieces = append(r.pieces, api.Piece{Kind: kind, Seq: seq, At: len(r.all) + headLength, Length: len(payload)})
	r.all = append(r.all, b...)
}

// mixed is a row whose payloads spell all kinds of things: nothing, noughts, a frame, a frame cut off, a head alone.
func mixed(t *testing.T) *row {
	t.Helper()
	inner := string(made(t, 3, 9, "inside"))
	r := &row{}
	r.put(t, 1, 0, "")
	r.put(t, 9, math.MaxUint64, "x")
	r.put(t, 2, 1, inner)
	r.put(t, 2, 1, inner[:26])
	r.put(t, 5, 1<<63, string(headOf("SPR", 1, 2, 1000, 7)))
	r.put(t, 1, 0, string(make([]byte, 40)))
	r.put(t, 4, 255, "SPR")
	return r
}

// The chapter's examples, row by row.

func TestExampleSums(t *testing.T) {
	for _, x := range []struct {
		b   string
		sum uint32
	}{{"", 0}, {"123456789", 0xe3069283}, {"a", 0xc1d04330}, {"\x00", 0x527d5351}, {"1234", 0xf63af4ee}} {
		if sum := frame.Sum([]byte(x.b)); sum != x.sum {
			t.Errorf("Sum of %q: %08x, not %08x", x.b, sum, x.sum)
		}
	}
	if sum := frame.More(0xf63af4ee, []byte("56789")); sum != 0xe3069283 {
		t.Errorf("More of f63af4ee with 56789: %08x", sum)
	}
}

const (
	exampleEmpty = "\x53\x50\x52\x02" + "\x00\x00\x00\x00\x00\x00\x00\x07" + "\x00\x00\x00\x00" + "\x00\x00\x00\x00" + "\xf3\x9e\xe2\x44"
	exampleAB    = "\x53\x50\x52\x01" + "\x00\x00\x00\x00\x00\x00\x01\x00" + "\x00\x00\x00\x02" + "\x36\x29\xa2\xe2" + "\x66\x81\x8d\xff" + "\x61\x62"
)

func TestExampleFrames(t *testing.T) {
	if b := made(t, 2, 7, ""); string(b) != exampleEmpty {
		t.Errorf("Make(2, 7, nothing): % x", b)
	}
	if b := made(t, 1, 256, "ab"); string(b) != exampleAB {
		t.Errorf("Make(1, 256, ab): % x", b)
	}
	if sum := frame.Sum([]byte(exampleEmpty[:20])); sum != 0x44e29ef3 {
		t.Errorf("the sum of the first 20 bytes: %08x", sum)
	}
}

func TestExampleScans(t *testing.T) {
	both := exampleEmpty + exampleAB
	first := []api.Piece{{Kind: 2, Seq: 7, At: 24}}
	two := append(slices.Clone(first), api.Piece{Kind: 1, Seq: 256, At: 48, Length: 2})
	scans(t, "two frames", []byte(both), two, 50, api.OK)
	scans(t, "their first 49 bytes", []byte(both[:49]), first, 24, api.ErrFrameTorn)
	for d := 1; d < 256; d++ {
		b := []byte(both)
		b[24] ^= byte(d)
		scans(t, "another byte at 24", b, first, 24, api.ErrFrameHead)
		b = []byte(both)
		b[49] ^= byte(d)
		scans(t, "another byte at 49", b, first, 24, api.ErrFrameSum)
	}
	scans(t, "24 noughts", make([]byte, 24), nil, 0, api.ErrFrameHead)
	scans(t, "23 noughts", make([]byte, 23), nil, 0, api.ErrFrameTorn)
	scans(t, "nothing", nil, nil, 0, api.OK)
	scans(t, "nothing", []byte{}, nil, 0, api.OK)
}

func TestExampleRefused(t *testing.T) {
	tooMuch := make([]byte, 1048577)
	for _, x := range []struct {
		kind    int
		payload []byte
		e       api.Errno
	}{
		{0, tooMuch, api.ErrFrameKind}, {10, nil, api.ErrFrameKind}, {9, tooMuch, api.ErrFrameLong},
	} {
		if b, e := frame.Make(x.kind, 1, x.payload); e != x.e || len(b) != 0 {
			t.Errorf("Make(%d, 1, %d bytes): %d bytes, %d, not %d", x.kind, len(x.payload), len(b), e, x.e)
		}
	}
}

// The sum.

func TestSumOfAnyBytes(t *testing.T) {
	rnd := rand.New(rand.NewSource(1))
	castagnoli := crc32.MakeTable(crc32.Castagnoli)
	ask := func(b []byte) {
		sum := frame.Sum(b)
		if w := bitSum(0, b); sum != w {
			t.Errorf("Sum of % x: %08x, not %08x", b, sum, w)
		}
		if w := crc32.Checksum(b, castagnoli); sum != w {
			t.Errorf("Sum of % x: %08x, the library's %08x", b, sum, w)
		}
		if w := dividedSum(b); sum != w {
			t.Errorf("Sum of % x: %08x, the division leaves %08x", b, sum, w)
		}
	}
	for i := range 256 {
		ask([]byte{byte(i)})
		ask([]byte{0xff, byte(i), 0})
	}
	for n := range 80 {
		b := make([]byte, n)
		ask(b)
		rnd.Read(b)
		ask(b)
	}
}

func TestSumOfLongBytes(t *testing.T) {
	b := make([]byte, 3<<20+5)
	rand.New(rand.NewSource(2)).Read(b)
	if sum, w := frame.Sum(b), crc32.Checksum(b, crc32.MakeTable(crc32.Castagnoli)); sum != w {
		t.Errorf("Sum of %d bytes: %08x, not %08x", len(b), sum, w)
	}
}

// P2.1.

func TestMoreGoesOn(t *testing.T) {
	rnd := rand.New(rand.NewSource(3))
	for n := range 60 {
		b := make([]byte, n)
		rnd.Read(b)
		for cut := range n + 1 {
			if sum, w := frame.More(frame.Sum(b[:cut]), b[cut:]), frame.Sum(b); sum != w {
				t.Errorf("% x cut at %d: %08x, not %08x", b, cut, sum, w)
			}
		}
	}
}

func TestMoreOfAnySum(t *testing.T) {
	rnd := rand.New(rand.NewSource(4))
	sums := []uint32{0, 1, 77, math.MaxUint32, math.MaxUint32 - 1, 1 << 31}
	for k := range 32 {
		sums = append(sums, 1<<k, rnd.Uint32())
	}
	for _, sum := range sums {
		if got := frame.More(sum, nil); got != sum {
			t.Errorf("More of %08x with nothing: %08x", sum, got)
		}
		if got := frame.More(sum, []byte{}); got != sum {
			t.Errorf("More of %08x with an empty list: %08x", sum, got)
		}
		for n := range 9 {
			b := make([]byte, n)
			rnd.Read(b)
			if got, w := frame.More(sum, b), bitSum(sum, b); got != w {
				t.Errorf("More of %08x with % x: %08x, not %08x", sum, b, got, w)
			}
		}
	}
}

// Every number of 32 bits is the sum of some bytes: four that are looked for backwards lead to it, and More goes on from them as from the number.
func TestEverySumIsSomeBytes(t *testing.T) {
	rnd := rand.New(rand.NewSource(5))
	for _, sum := range []uint32{0, 1, math.MaxUint32, rnd.Uint32(), rnd.Uint32()} {
		state := ^sum
		for range 32 {
			if state>>31 == 1 {
				state = (state^0x82f63b78)<<1 | 1
			} else {
				state <<= 1
			}
		}
		state ^= math.MaxUint32
		b := []byte{byte(state), byte(state >> 8), byte(state >> 16), byte(state >> 24)}
		if got := frame.Sum(b); got != sum {
			t.Errorf("Sum of % x: %08x, not %08x", b, got, sum)
		}
		if got, w := frame.More(sum, []byte("more")), frame.Sum(append(b, "more"...)); got != w {
			t.Errorf("More of %08x: %08x, not %08x", sum, got, w)
		}
	}
}

// Make.

func TestMakeLaysAFrameDown(t *testing.T) {
	rnd := rand.New(rand.NewSource(6))
	for kind := 1; kind <= 9; kind++ {
		for _, seq := range []uint64{0, 1, 255, 256, 0x0102030405060708, 1 << 63, math.MaxUint64, rnd.Uint64()} {
			for _, n := range []int{0, 1, 2, 24, 255, 256, 65536, 65537 + rnd.Intn(100)} {
				payload := make([]byte, n)
				rnd.Read(payload)
				want := append(headOf("SPR", byte(kind), seq, uint32(n), bitSum(0, payload)), payload...)
				if b := made(t, kind, seq, string(payload)); !bytes.Equal(b, want) {
					t.Fatalf("Make(%d, %d, %d bytes): % x, not % x", kind, seq, n, b[:24], want[:24])
				}
			}
		}
	}
}

func TestMakeOfTheLongestPayload(t *testing.T) {
	payload := make([]byte, api.MaxPayload)
	rand.New(rand.NewSource(7)).Read(payload)
	b := made(t, 9, 1, string(payload))
	if len(b) != api.MaxPayload+24 || !bytes.Equal(b[24:], payload) || !bytes.Equal(b[12:16], []byte{0, 0x10, 0, 0}) {
		t.Fatalf("%d bytes, % x", len(b), b[:24])
	}
	scans(t, "the longest frame", b, []api.Piece{{Kind: 9, Seq: 1, At: 24, Length: api.MaxPayload}}, len(b), api.OK)
	scans(t, "the longest frame, one byte off", b[:len(b)-1], nil, 0, api.ErrFrameTorn)
	b[len(b)-1] ^= 1
	scans(t, "the longest frame, its last byte turned", b, nil, 0, api.ErrFrameSum)
}

func TestMakeRefuses(t *testing.T) {
	for _, kind := range []int{0, -1, 10, 11, 255, 256, 257, 265, 1 << 16, 1<<32 + 1, math.MinInt, math.MaxInt} {
		for _, n := range []int{0, 1, api.MaxPayload, api.MaxPayload + 1} {
			if b, e := frame.Make(kind, 1, make([]byte, n)); e != api.ErrFrameKind || len(b) != 0 {
				t.Errorf("Make of kind %d, %d bytes: %d bytes, %d", kind, n, len(b), e)
			}
		}
	}
	for _, n := range []int{api.MaxPayload + 1, api.MaxPayload + 2, 2 * api.MaxPayload} {
		for _, kind := range []int{1, 9} {
			if b, e := frame.Make(kind, 1, make([]byte, n)); e != api.ErrFrameLong || len(b) != 0 {
				t.Errorf("Make of kind %d, %d bytes: %d bytes, %d", kind, n, len(b), e)
			}
		}
	}
}

// Head.

func TestHeadTellsWhatMakeMade(t *testing.T) {
	r := mixed(t)
	for i, p := range r.pieces {
		b := r.all[r.starts[i]:]
		payload := b[24 : 24+p.Length]
		want := api.Head{Kind: p.Kind, Seq: p.Seq, Length: p.Length, Sum: frame.Sum(payload)}
		for n := 24; n <= len(b); n++ {
			if h, e := frame.Head(b[:n]); h != want || e != api.OK {
				t.Errorf("Head of frame %d, %d bytes: %+v, %d", i, n, h, e)
			}
		}
		for n := range 24 {
			if h, e := frame.Head(b[:n]); h != (api.Head{}) || e != api.ErrFrameTorn {
				t.Errorf("Head of frame %d, %d bytes: %+v, %d", i, n, h, e)
			}
		}
	}
	if h, e := frame.Head(nil); h != (api.Head{}) || e != api.ErrFrameTorn {
		t.Errorf("Head of nothing: %+v, %d", h, e)
	}
}

// A head's own sum may be right while something else in it is not; and what the payload is does not matter to it.
func TestHeadOfRightSum(t *testing.T) {
	for _, x := range []struct {
		mark   string
		kind   byte
		length uint32
		right  bool
	}{
		{"SPR", 1, 0, true}, {"SPR", 9, 0, true}, {"SPR", 5, 1048576, true}, {"SPR", 5, 1048575, true},
		{"SPR", 0, 0, false}, {"SPR", 10, 0, false}, {"SPR", 255, 0, false}, {"SPR", 128, 0, false},
		{"SPR", 5, 1048577, false}, {"SPR", 5, 1 << 24, false}, {"SPR", 5, 1 << 31, false}, {"SPR", 5, math.MaxUint32, false},
		{"sPR", 5, 0, false}, {"SpR", 5, 0, false}, {"SPr", 5, 0, false}, {"\x00\x00\x00", 5, 0, false}, {"RPS", 5, 0, false},
	} {
		what := fmt.Sprintf("%q, %d, %d", x.mark, x.kind, x.length)
		b := headOf(x.mark, x.kind, 0x0102030405060708, x.length, 0x0a0b0c0d)
		h, e := frame.Head(b)
		want := api.Head{Kind: int(x.kind), Seq: 0x0102030405060708, Length: int(x.length), Sum: 0x0a0b0c0d}
		wantErr := api.OK
		if !x.right {
			want, wantErr = api.Head{}, api.ErrFrameHead
		}
		if h != want || e != wantErr {
			t.Errorf("Head of %s: %+v, %d", what, h, e)
		}
		if h, e := frame.Head(b[:23]); h != (api.Head{}) || e != api.ErrFrameTorn {
			t.Errorf("Head of 23 bytes of %s: %+v, %d", what, h, e)
		}
	}
}

// Each of the sums must stand with its lowest byte first, and each number with its highest.
func TestHeadOfBytesTheOtherWayRound(t *testing.T) {
	b := made(t, 1, 256, "ab")
	slices.Reverse(b[20:24])
	if h, e := frame.Head(b); h != (api.Head{}) || e != api.ErrFrameHead {
		t.Errorf("%+v, %d", h, e)
	}
	b = headOf("SPR", 1, 256, 2, 0x3629a2e2)
	if h, e := frame.Head(b); h.Sum != 0x3629a2e2 || e != api.OK {
		t.Errorf("%+v, %d", h, e)
	}
	scans(t, "a sum the other way round", append(b, "ab"...), nil, 0, api.ErrFrameSum)
}

// Scan: which error comes first.

func TestScanErrorsInOrder(t *testing.T) {
	spoiltAndShort := append(headOf("SPR", 1, 1, 5, 123), "abcd"...)
	scans(t, "a payload that is cut off and spoilt", spoiltAndShort, nil, 0, api.ErrFrameTorn)
	scans(t, "a payload that is spoilt", append(spoiltAndShort, 'e'), nil, 0, api.ErrFrameSum)
	scans(t, "no head, and nothing behind", headOf("SPR", 0, 1, 5, 123), nil, 0, api.ErrFrameHead)
	scans(t, "a head cut off that is none", []byte("nothing of this kind"), nil, 0, api.ErrFrameTorn)
	scans(t, "a long head alone", headOf("SPR", 1, 1, api.MaxPayload, 0), nil, 0, api.ErrFrameTorn)
	scans(t, "a head too long", headOf("SPR", 1, 1, api.MaxPayload+1, 0), nil, 0, api.ErrFrameHead)
	scans(t, "an empty payload of another sum", headOf("SPR", 1, 1, 0, 1), nil, 0, api.ErrFrameSum)
}

// What lies behind a spoilt frame is not looked for.
func TestScanEndsAtTheFirstError(t *testing.T) {
	r := &row{}
	r.put(t, 1, 1, "one")
	ahead, ends := slices.Clone(r.pieces), len(r.all)
	r.put(t, 1, 2, "two")
	r.put(t, 1, 3, "three")
	r.all[ends+24] ^= 4
	scans(t, "a spoilt payload in the midst", r.all, ahead, ends, api.ErrFrameSum)
	r.all[ends] ^= 4
	scans(t, "a spoilt head in the midst", r.all, ahead, ends, api.ErrFrameHead)
}

// P2.2.

func TestJoined(t *testing.T) {
	r := mixed(t)
	scans(t, "frames", r.all, r.pieces, len(r.all), api.OK)
	rnd := rand.New(rand.NewSource(8))
	spoilt := slices.Clone(r.all)
	spoilt[r.starts[2]+30] ^= 1
	behind := [][]byte{nil, {0}, []byte("S"), []byte("SPR"), make([]byte, 23), make([]byte, 24), make([]byte, 100),
		r.all, r.all[:r.starts[3]+5], spoilt, headOf("SPR", 2, 2, 9, 9), headOf("SPR", 0, 2, 0, 0)}
	for range 50 {
		b := make([]byte, rnd.Intn(60))
		rnd.Read(b)
		behind = append(behind, b)
	}
	for i := range r.starts {
		front, pieces := r.all[:r.starts[i]], r.pieces[:i]
		for _, b := range behind {
			more, end, e := wordScan(b)
			want := slices.Clone(pieces)
			for _, p := range more {
				p.At += len(front)
				want = append(want, p)
			}
			scans(t, fmt.Sprintf("%d frames and % x", i, b), slices.Concat(front, b), want, len(front)+end, e)
		}
	}
}

func TestJoinedMany(t *testing.T) {
	r := &row{}
	rnd := rand.New(rand.NewSource(9))
	for i := range 2000 {
		b := make([]byte, rnd.Intn(40))
		rnd.Read(b)
		r.put(t, 1+i%9, rnd.Uint64(), string(b))
	}
	scans(t, "many frames", r.all, r.pieces, len(r.all), api.OK)
}

// P2.3.

func TestCutOff(t *testing.T) {
	r := mixed(t)
	ends := append(slices.Clone(r.starts[1:]), len(r.all))
	for cut := range len(r.all) + 1 {
		whole, last := 0, 0
		for whole < len(ends) && ends[whole] <= cut {
			last = ends[whole]
			whole++
		}
		e := api.ErrFrameTorn
		if last == cut {
			e = api.OK
		}
		scans(t, fmt.Sprintf("frames cut off at %d", cut), r.all[:cut:cut], r.pieces[:whole], last, e)
	}
}

// P2.4.

// turn turns these bits of 32, from a bit on.
func turn(b []byte, from int, pattern uint32) []byte {
	c := slices.Clone(b)
	for k := range 32 {
		if pattern>>k&1 == 1 {
			c[(from+k)/8] ^= 1 << ((from + k) % 8)
		}
	}
	return c
}

func TestTurned(t *testing.T) {
	r := &row{}
	r.put(t, 1, 5, "first")
	r.put(t, 2, 6, string(made(t, 3, 9, "x")))
	r.put(t, 2, 7, "")
	r.put(t, 3, 8, "the last one")
	rnd := rand.New(rand.NewSource(10))
	patterns := []uint32{math.MaxUint32, 0x80000001, 0x82f63b78, 0xedb88320, 0x1edc6f41, 0xff, 0xffff, 0x01010101, 0x80808081}
	for k := range 32 {
		patterns = append(patterns, 1<<k, 1|1<<k)
	}
	starts := append(slices.Clone(r.starts), len(r.all))
	for i, start := range r.starts {
		for from := 8 * start; from < 8*starts[i+1]; from++ {
			for _, pattern := range append(patterns, rnd.Uint32(), rnd.Uint32(), 1|rnd.Uint32()) {
				// of the pattern only what lies in this frame
				if left := 8*starts[i+1] - from; left < 32 {
					pattern &= 1<<left - 1
				}
				if pattern == 0 {
					continue
				}
				e := api.ErrFrameSum
				for k := range 32 {
					if pattern>>k&1 == 1 && from+k < 8*(start+24) {
						e = api.ErrFrameHead
					}
				}
				what := fmt.Sprintf("frames with %08x turned from bit %d", pattern, from)
				scans(t, what, turn(r.all, from, pattern), r.pieces[:i], start, e)
			}
		}
	}
}

// P2.5 and P2.6.

// oneForm asks that what Scan tells of any bytes is what Make makes, and that the pieces stand without a gap.
func oneForm(t *testing.T, b []byte) {
	t.Helper()
	pieces, end, e := frame.Scan(b)
	at := 0
	for _, p := range pieces {
		if p.At != at+24 || p.Length < 0 || p.At+p.Length > len(b) {
			t.Fatalf("Scan of % x: a piece %+v behind %d", b, p, at)
		}
		at = p.At + p.Length
		again := made(t, p.Kind, p.Seq, string(b[p.At:at]))
		if !bytes.Equal(again, b[p.At-24:at]) {
			t.Errorf("Scan of % x: Make makes % x of %+v", b, again, p)
		}
	}
	if at != end || e == api.OK && end != len(b) {
		t.Errorf("Scan of % x: ends at %d by %d, the last piece at %d", b, end, e, at)
	}
	scans(t, fmt.Sprintf("% x, up to its end", b), b[:end], pieces, end, api.OK)
	wordPieces, wordEnd, wordErr := wordScan(b)
	scans(t, fmt.Sprintf("% x", b), b, wordPieces, wordEnd, wordErr)
}

// anyBytes strings frames together, right ones and such as are wrong in one thing, so that every step of Scan is come to.
func anyBytes(rnd *rand.Rand) []byte {
	var b []byte
	for range rnd.Intn(6) {
		payload := make([]byte, rnd.Intn(12))
		rnd.Read(payload)
		kind, length, sum, mark := byte(1+rnd.Intn(9)), uint32(len(payload)), bitSum(0, payload), "SPR"
		switch rnd.Intn(14) {
		case 0:
			kind = byte(rnd.Intn(256))
		case 1:
			length = uint32(rnd.Intn(30))
		case 2:
			sum ^= 1 << rnd.Intn(32)
		case 3:
			mark = "SPQ"
		case 4:
			length = 1048576 + uint32(rnd.Intn(3)) - 1
		}
		b = append(b, headOf(mark, kind, rnd.Uint64(), length, sum)...)
		b = append(b, payload...)
	}
	if rnd.Intn(3) == 0 {
		b = b[:rnd.Intn(len(b)+1)]
	}
	if rnd.Intn(6) == 0 && len(b) > 0 {
		b[rnd.Intn(len(b))] = byte(rnd.Intn(256))
	}
	return b
}

func TestOneFormOfAnyBytes(t *testing.T) {
	oneForm(t, nil)
	oneForm(t, mixed(t).all)
	rnd := rand.New(rand.NewSource(11))
	for range 5000 {
		oneForm(t, anyBytes(rnd))
		b := make([]byte, rnd.Intn(50))
		rnd.Read(b)
		oneForm(t, b)
	}
}

// The rules that hold everywhere.

// guarded is a list with spare room behind it, and what it should still be afterwards.
func guarded(s string) (b, all []byte, same func() bool) {
	all = append([]byte(s), bytes.Repeat([]byte{0xa5}, 64)...)
	want := slices.Clone(all)
	return all[:len(s)], all, func() bool { return bytes.Equal(all, want) }
}

func TestNothingHandedInIsWritten(t *testing.T) {
	whole := string(mixed(t).all)
	for _, s := range []string{"", "ab", whole, whole[:len(whole)-1]} {
		b, _, same := guarded(s)
		frame.Sum(b)
		frame.More(5, b)
		frame.Make(1, 2, b)
		frame.Make(0, 2, b)
		frame.Head(b)
		frame.Scan(b)
		if !same() {
			t.Errorf("% x was written into", s)
		}
	}
}

func TestAnswersAreNewMemory(t *testing.T) {
	payload, all, _ := guarded("payload")
	one, e1 := frame.Make(1, 2, payload)
	two, e2 := frame.Make(1, 2, payload)
	if e1 != api.OK || e2 != api.OK {
		t.Fatal(e1, e2)
	}
	want := slices.Clone(two)
	clear(one[:cap(one)])
	clear(all)
	if !bytes.Equal(two, want) {
		t.Errorf("% x, not % x", two, want)
	}
	r := mixed(t)
	pieces, _, _ := frame.Scan(r.all)
	again, _, _ := frame.Scan(r.all)
	clear(pieces[:cap(pieces)])
	if !slices.Equal(again, r.pieces) {
		t.Errorf("%v, not %v", again, r.pieces)
	}
}

func TestAnswersHangOnArgumentsAlone(t *testing.T) {
	r := mixed(t)
	frame.Make(0, 0, nil)
	frame.Scan(r.all[:30])
	frame.More(99, r.all)
	for range 3 {
		scans(t, "frames", r.all, r.pieces, len(r.all), api.OK)
		if !bytes.Equal(made(t, 2, 7, ""), []byte(exampleEmpty)) {
			t.Error("Make(2, 7, nothing) changed")
		}
		if frame.Sum([]byte("a")) != 0xc1d04330 {
			t.Error("Sum of a changed")
		}
	}
}
