package batch_test

import (
	"errors"
	"math"
	"math/big"
	"math/rand/v2"
	"runtime"
	"slices"
	"strings"
	"testing"
	"unicode/utf8"

	"spoor/api"
	"spoor/batch"
	"spoor/span"
)

const most64 = "\xff\xff\xff\xff\xff\xff\xff\xff\xff\x01" // 2^64 - 1

// P5.3: cut off.
func TestCutOff(t *testing.T) {
	for _, l := range lists() {
		b := encoded(t, l)
		step := 1 + len(b)/1000
		for n := 0; n < len(b); n += step {
			if n < 3 {
				refusesBytes(t, "cut off", b[:n], 0, api.ErrBatchHead)
			} else {
				refusesBytes(t, "cut off", b[:n], n, api.ErrWireEnd)
			}
		}
		refusesBytes(t, "but the last byte", b[:len(b)-1], len(b)-1, api.ErrWireEnd)
	}
}

// P5.3: with bytes behind.
func TestBytesBehind(t *testing.T) {
	for _, l := range lists() {
		b := encoded(t, l)
		for _, behind := range []string{"\x00", "\xff", "SB\x01\x00\x00\x00", string(b), strings.Repeat("\x00", 65536-len(b))} {
			if behind == "" {
				continue
			}
			if whole := append(slices.Clone(b), behind...); len(whole) <= 65536 {
				refusesBytes(t, "with bytes behind", whole, len(b), api.ErrWireRest)
			} else {
				refusesBytes(t, "with too many behind", whole, 0, api.ErrBatchLong)
			}
		}
		refusesBytes(t, "65537 bytes", append(slices.Clone(b), make([]byte, 65537-len(b))...), 0, api.ErrBatchLong)
	}
}

func TestHead(t *testing.T) {
	for _, b := range []string{"", "S", "SB", "sB\x01", "Sb\x01", "SB\x00", "SB\x02", "BS\x01", "\x00SB\x01", "SC\x01\x00\x00\x00", "TB\x01\x00\x00\x00", "SB\x02\x00\x00\x00"} {
		refusesBytes(t, b, []byte(b), 0, api.ErrBatchHead)
	}
	refusesBytes(t, "no head, and too long", make([]byte, 65537), 0, api.ErrBatchLong)
	refusesBytes(t, "no head, not too long", make([]byte, 65536), 0, api.ErrBatchHead)
}

// turned is a batch of which one piece, the which-th of its kind, stands otherwise; and where that piece begins, and where its span.
func turned(t *testing.T, l []piece, kind string, which int, b string) (whole []byte, at, first int) {
	t.Helper()
	for i, p := range l {
		if p.kind != kind {
			continue
		}
		if which > 0 {
			which--
			continue
		}
		begin := slices.IndexFunc(l, func(q piece) bool { return q.of == p.of })
		return []byte(spelt(l[:i]) + b + spelt(l[i+1:])), len(spelt(l[:i])), len(spelt(l[:begin]))
	}
	t.Fatalf("no %s", kind)
	return nil, 0, 0
}

// Each step, at which one thing is wrong: the error at that piece.
func TestEachStep(t *testing.T) {
	for _, c := range []struct {
		kind  string
		which int
		b     string
		e     api.Errno
		in    int // so many bytes into the piece
	}{
		{"text", 0, uvar(201) + strings.Repeat("a", 201), api.ErrWireLong, 0},
		{"text", 7, most64, api.ErrWireLong, 0},
		{"text", 0, "\x80\x00", api.ErrWireForm, 0},
		{"text", 0, "\x03a\xc3(", api.ErrWireUTF8, 2},
		{"text", 2, "\x01\xff", api.ErrWireUTF8, 1},
		{"text", 1, "\x01a", api.ErrBatchName, 0},
		{"text", 7, "\x01b", api.ErrBatchName, 0},
		{"trace", 1, big64(1) + big64(7), api.ErrBatchName, 0},
		{"texts", 0, "\x88\x00", api.ErrWireForm, 0},
		{"traces", 0, strings.Repeat("\xff", 10), api.ErrWireForm, 0},
		{"spans", 0, "\x82\x00", api.ErrWireForm, 0},
		{"spans", 0, uvar(501), api.ErrBatchMany, 0},
		{"spans", 0, most64, api.ErrBatchMany, 0},
		{"Start", 1, ivar(math.MaxInt64 - 99), api.ErrBatchForm, 0},
		{"Start", 1, ivar(math.MaxInt64), api.ErrBatchForm, 0},
		{"End", 0, uvar(math.MaxInt64 - 99), api.ErrBatchForm, 0},
		{"End", 0, uvar(1 << 63), api.ErrBatchForm, 0},
		{"End", 1, most64, api.ErrBatchForm, 0},
		{"link", 1, uvar(math.MaxUint64 - 2), api.ErrBatchForm, 0},
		{"link", 1, most64, api.ErrBatchForm, 0},
		{"links", 0, uvar(17), api.ErrBatchForm, 0},
		{"links", 1, most64, api.ErrBatchForm, 0},
		{"attrs", 0, uvar(33), api.ErrBatchForm, 0},
		{"attrs", 1, most64, api.ErrBatchForm, 0},
		{"events", 0, uvar(33), api.ErrBatchForm, 0},
		{"events", 1, most64, api.ErrBatchForm, 0},
		{"value's kind", 0, "\x03", api.ErrBatchForm, 0},
		{"value's kind", 2, "\xff", api.ErrBatchForm, 0},
		{"bool", 0, "\x02", api.ErrBatchForm, 0},
		{"bool", 0, "\xff", api.ErrBatchForm, 0},
		{"int", 0, "\x85\x00", api.ErrWireForm, 0},
		{"At", 0, uvar(1 << 63), api.ErrBatchForm, 0},
		{"At", 0, most64, api.ErrBatchForm, 0},
		{"At", 1, uvar(math.MaxInt64 - 119), api.ErrBatchForm, 0},
		{"At", 1, most64, api.ErrBatchForm, 0},
	} {
		b, at, _ := turned(t, pieces(rich()), c.kind, c.which, c.b)
		refusesBytes(t, c.kind, b, at+c.in, c.e)
	}
}

// A span that may not be is told at its first byte, where all its fields can be read; so are sums that are just no more than an int64 or a uint64.
func TestSpansThatMayNotBe(t *testing.T) {
	for _, c := range []struct {
		kind  string
		which int
		b     string
		e     api.Errno
	}{
		{"ID", 0, big64(0), api.ErrSpanID},
		{"ID", 1, big64(0), api.ErrSpanID},
		{"Start", 0, ivar(-1), api.ErrSpanTime},
		{"Start", 0, ivar(math.MinInt64), api.ErrSpanTime},
		{"Start", 0, ivar(math.MaxInt64 - 50), api.ErrSpanTime},
		{"Start", 1, ivar(-101), api.ErrSpanTime},
		{"Start", 1, ivar(math.MinInt64), api.ErrSpanTime},
		{"Start", 1, ivar(math.MaxInt64 - 100), api.ErrSpanTime},
		{"End", 0, uvar(math.MaxInt64 - 100), api.ErrSpanTime},
		{"End", 0, uvar(api.MaxTime - 99), api.ErrSpanTime},
		{"both", 0, "\x05", api.ErrSpanKind},
		{"both", 0, "\x07", api.ErrSpanKind},
		{"both", 1, "\x18", api.ErrSpanKind},
		{"both", 1, "\xf8", api.ErrSpanKind},
		{"both", 1, "\xff", api.ErrSpanKind},
		{"link", 0, "\x00", api.ErrSpanLinks},
		{"link", 0, "\x01", api.ErrSpanLinks},
		{"link", 1, "\x00", api.ErrSpanLinks},
		{"At", 0, uvar(math.MaxInt64 - 10), api.ErrSpanEvents},
		{"At", 1, uvar(math.MaxInt64 - 120), api.ErrSpanEvents},
		{"At", 1, "\x00", api.ErrSpanEvents},
	} {
		b, _, first := turned(t, pieces(rich()), c.kind, c.which, c.b)
		refusesBytes(t, c.kind, b, first, c.e)
	}
	for _, c := range []struct {
		which int
		b     string
		e     api.Errno
		of    int
	}{
		{0, "\x00", api.ErrSpanName, 0},
		{0, "\x02a ", api.ErrSpanName, 0},
		{1, "\x01\n", api.ErrSpanName, 0},
		{2, "\x01F", api.ErrSpanAttrs, 0},
		{4, "\x01j", api.ErrSpanAttrs, 0},
		{6, "\x00", api.ErrSpanEvents, 0},
		{7, uvar(101) + strings.Repeat("c", 101), api.ErrSpanName, 1},
	} {
		l := pieces(rich())
		b, _, _ := turned(t, l, "text", c.which, c.b)
		_, at, _ := turned(t, l, "trace number", c.of, "")
		refusesBytes(t, "text "+c.b, b, at+len(b)-len(spelt(l)), c.e)
	}
	b, at, _ := turned(t, pieces([]api.Span{spanS()}), "trace", 0, big64(0)+big64(0))
	refusesBytes(t, "no trace", b, at+17, api.ErrSpanID)
}

// A Start below 0 is told only when all fields are read: the End behind it is a sum as any other.
func TestEndBehindAStartBelow0(t *testing.T) {
	for _, c := range []struct {
		start int64
		most  uint64 // the greatest that makes an int64
	}{
		{-1, 1 << 63},
		{-2, 1<<63 + 1},
		{math.MinInt64 + 1, math.MaxUint64 - 1},
	} {
		l := pieces([]api.Span{spanS()})
		at := slices.IndexFunc(l, func(p piece) bool { return p.kind == "Start" })
		l[at].b = ivar(c.start)
		b, _, first := turned(t, l, "End", 0, uvar(c.most))
		refusesBytes(t, "an int64", b, first, api.ErrSpanTime)
		b, place, _ := turned(t, l, "End", 0, uvar(c.most+1))
		refusesBytes(t, "none", b, place, api.ErrBatchForm)
	}
	l := pieces([]api.Span{spanS()})
	at := slices.IndexFunc(l, func(p piece) bool { return p.kind == "Start" })
	l[at].b = ivar(math.MinInt64)
	b, _, first := turned(t, l, "End", 0, most64)
	refusesBytes(t, "from the least to the greatest", b, first, api.ErrSpanTime)
}

// What stands in its bounds is taken: the greatest further link, as many as may be of each list, 500 spans.
func TestBoundsAreTaken(t *testing.T) {
	b, _, _ := turned(t, pieces(rich()), "link", 1, uvar(math.MaxUint64-3))
	l, err := batch.Decode(b)
	if err != nil || l[0].Links[1] != math.MaxUint64 {
		t.Errorf("%v %v", l, err)
	}
	l, err = batch.Decode([]byte(spelt(pieces([]api.Span{greatest(0)}))))
	if err != nil || len(l) != 1 || len(l[0].Links) != 16 || len(l[0].Attrs) != 32 || len(l[0].Events) != 32 {
		t.Errorf("%v %v", l, err)
	}
	l, err = batch.Decode([]byte(spelt(pieces(slices.Repeat([]api.Span{spanS()}, 500)))))
	if err != nil || len(l) != 500 {
		t.Errorf("%d spans, %v", len(l), err)
	}
}

// Every number that stands in as many bytes as it needs is refused if it stands in one more.
func TestNumbersHaveOneForm(t *testing.T) {
	l := pieces(rich())
	for i, p := range l {
		switch p.kind {
		case "head", "text", "trace", "ID", "Parent", "both", "value's kind", "bool":
			continue
		}
		end := len(p.b) - 1
		long := p.b[:end] + string([]byte{p.b[end] | 0x80, 0})
		refusesBytes(t, p.kind, []byte(spelt(l[:i])+long+spelt(l[i+1:])), len(spelt(l[:i])), api.ErrWireForm)
	}
}

// A number of a text or a trace is none of those that there are, or not yet one of those that may be spoken of.
func TestNumbersOfTables(t *testing.T) {
	early := 0
	for _, spans := range [][]api.Span{rich(), {spanS(), spanT()}, {greatest(0), greatest(1)}} {
		l := pieces(spans)
		for i, p := range l {
			if p.kind != "text number" && p.kind != "trace number" {
				continue
			}
			ahead, behind := spelt(l[:i]), spelt(l[i+1:])
			for _, n := range []uint64{uint64(p.rows), uint64(p.rows) + 1, math.MaxUint64} {
				refusesBytes(t, p.kind, []byte(ahead+uvar(n)+behind), len(ahead), api.ErrBatchForm)
			}
			for _, n := range []int{p.most + 1, p.rows - 1} {
				if p.most < n && n < p.rows {
					early++
					refusesBytes(t, p.kind, []byte(ahead+uvar(uint64(n))+behind), len(ahead), api.ErrBatchName)
				}
			}
		}
	}
	if early < 100 {
		t.Errorf("only %d were spoken of too early", early)
	}
	refusesBytes(t, "no table", unhex("534201 00 00 01 00"), 6, api.ErrBatchForm)
}

// Behind all spans: texts that nothing speaks of, then traces, then what is left.
func TestNothingSpeaksOfIt(t *testing.T) {
	const head, one, two = "SB\x01", "\x01a", "\x01b"
	first, second := big64(0)+big64(1), big64(0)+big64(2)
	for _, behind := range []string{"", "\x00", "SB"} {
		refusesBytes(t, "a text, and a trace", []byte(head+"\x02"+one+two+"\x01"+first+"\x00"+behind), 4, api.ErrBatchName)
		refusesBytes(t, "traces", []byte(head+"\x00\x02"+first+second+"\x00"+behind), 5, api.ErrBatchName)
	}

	l := pieces(rich())
	more := func(text, trace bool) (b string, textAt, traceAt int) {
		for _, p := range l {
			switch {
			case text && p.kind == "texts":
				p.b = uvar(10)
			case text && p.kind == "traces":
				textAt = len(b)
				p.b = "\x03new\x03old" + p.b
			}
			if trace && p.kind == "traces" {
				p.b = p.b[:len(p.b)-1] + "\x04"
			} else if trace && p.kind == "spans" {
				traceAt = len(b)
				p.b = first + second + p.b
			}
			b += p.b
		}
		return b, textAt, traceAt
	}
	for _, behind := range []string{"", "\x00"} {
		b, at, _ := more(true, true)
		refusesBytes(t, "both", []byte(b+behind), at, api.ErrBatchName)
		b, at, _ = more(true, false)
		refusesBytes(t, "texts", []byte(b+behind), at, api.ErrBatchName)
		b, _, at = more(false, true)
		refusesBytes(t, "traces", []byte(b+behind), at, api.ErrBatchName)
	}
}

// How many there are is not believed: neither time nor room is spent on what does not stand there.
func TestHowManyIsNotBelieved(t *testing.T) {
	trace := big64(0) + big64(7)
	span := "SB\x01\x02\x01a\x01b\x01" + trace + "\x01\x00" + big64(1) + big64(0) + "\x00\x01\x00\x0a\x04"
	for _, b := range []string{"SB\x01" + most64, "SB\x01\x00" + most64, "SB\x01\x00\x00" + uvar(500), span + "\x10", span + "\x00\x20", span + "\x00\x00\x20"} {
		refusesBytes(t, "no more bytes", []byte(b), len(b), api.ErrWireEnd)
	}
	const runs, most = 100, 20000
	var before, after runtime.MemStats
	runtime.ReadMemStats(&before)
	for range runs {
		batch.Decode([]byte("SB\x01\x00\x00\xf4\x03"))
		batch.Decode([]byte("SB\x01\xff\xff\xff\x03"))
		batch.Decode([]byte("SB\x01\x00\xff\xff\xff\x03"))
	}
	runtime.ReadMemStats(&after)
	if spent := after.TotalAlloc - before.TotalAlloc; spent > runs*most {
		t.Errorf("%d bytes a run", spent/runs)
	}
}

// spoiltBatches are batches in which something was changed, by chance: bytes, or whole pieces. Many of them are batches still.
func spoiltBatches() [][]byte {
	r := rand.New(rand.NewPCG(5, 2))
	var all [][]byte
	for i := range 20000 {
		spans := drawn(r, 1+r.IntN(4))
		if i%10 == 0 {
			spans = rich()
		}
		l := pieces(spans)
		for range 1 + r.IntN(2) {
			spoilPiece(r, l)
		}
		b := []byte(spelt(l))
		switch r.IntN(8) {
		case 0:
			b[r.IntN(len(b))] ^= 1 << r.IntN(8)
		case 1:
			b[3+r.IntN(len(b)-3)] = byte(r.Uint32())
		case 2:
			at := 3 + r.IntN(len(b)-3)
			b = slices.Insert(b, at, byte(r.Uint32()))
		case 3:
			b = slices.Delete(b, len(b)-1-r.IntN(len(b)/2), len(b)-r.IntN(2))
		}
		all = append(all, b)
	}
	for n := range 3000 {
		b := []byte("SB\x01")
		for range n % 100 {
			b = append(b, byte(r.Uint32()>>r.IntN(9)))
		}
		all = append(all, b, b[3:])
	}
	return all
}

func spoilPiece(r *rand.Rand, l []piece) {
	i, j := 1+r.IntN(len(l)-1), 1+r.IntN(len(l)-1)
	switch r.IntN(8) {
	case 0:
		l[i].b = uvar(r.Uint64() >> r.IntN(64))
	case 1:
		l[i].b = uvar(r.Uint64N(4))
	case 2:
		l[i].b, l[j].b = l[j].b, l[i].b
	case 3:
		l[i].b += l[i].b
	case 4:
		l[i].b = ""
	case 5:
		l[i].b = uvar([]uint64{16, 17, 32, 33, 500, 501, math.MaxInt64, 1 << 63, math.MaxUint64}[r.IntN(9)])
	case 6:
		l[i].b = strings.Repeat("\x00", len(l[i].b))
	}
}

// P5.5.
func TestAnyBytes(t *testing.T) {
	for _, b := range spoiltBatches() {
		l, err := batch.Decode(b)
		if err == nil {
			if len(l) > 500 || slices.ContainsFunc(l, func(s api.Span) bool { return span.Check(s) != api.OK }) {
				t.Fatalf("%x: %+v", b, l)
			}
			continue
		}
		f, ok := err.(*api.Fault)
		if !ok || f.At < 0 || f.At > len(b) || len(l) != 0 || !errors.Is(err, f.Err) || f.Err == api.OK {
			t.Fatalf("%x: %v with %v", b, err, l)
		}
	}
}

// Whatever is wrong, and however much, Decode answers as the plain reading of the chapter's table does.
func TestFirstStepThatDoesNotGo(t *testing.T) {
	met := map[api.Errno]int{}
	for _, b := range spoiltBatches() {
		want, fault := plainDecode(string(b))
		met[fault.Err]++
		l, err := batch.Decode(b)
		if fault.Err != api.OK {
			refused(t, "spoilt", l, err, fault.At, fault.Err)
		} else if err != nil || !sameSpans(l, want) {
			t.Errorf("%+v %v, not %+v", l, err, want)
		}
		if t.Failed() {
			t.Fatalf("of %x", b)
		}
	}
	for _, e := range []api.Errno{0, 11, 12, 13, 14, 15, 41, 42, 43, 44, 45, 46, 47, 52, 53, 54, 55} {
		if met[e] < 10 {
			t.Errorf("%v was met %d times", e, met[e])
		}
	}
}

// plain reads the chapter's table step by step; from the first that does not go on, it reads nothing.
type plain struct {
	b      string
	at     int
	fault  api.Fault
	texts  []string
	traces []api.TraceID
	told   [2]int // how many texts and traces are spoken of
}

func (p *plain) fail(at int, e api.Errno) {
	if p.fault.Err == api.OK {
		p.fault = api.Fault{At: at, Err: e}
	}
}

func (p *plain) good() bool { return p.fault.Err == api.OK }

func (p *plain) raw(n int) string {
	if p.good() && len(p.b)-p.at < n {
		p.fail(len(p.b), api.ErrWireEnd)
	}
	if !p.good() {
		return strings.Repeat("\x00", n)
	}
	p.at += n
	return p.b[p.at-n : p.at]
}

// number reads a Uint; if the sum of it and another one is above most: ErrBatchForm, or e.
func (p *plain) number(other, most *big.Int, e api.Errno) *big.Int {
	from, v := p.at, new(big.Int)
	for n := 0; p.good(); n++ {
		if n == 10 {
			p.fail(from, api.ErrWireForm)
			break
		}
		c := p.raw(1)[0]
		v.Add(v, new(big.Int).Lsh(big.NewInt(int64(c&127)), uint(7*n)))
		if c < 128 {
			if c == 0 && n > 0 || n == 9 && c > 1 {
				p.fail(from, api.ErrWireForm)
			}
			break
		}
	}
	if v.Add(v, other); p.good() && v.Cmp(most) > 0 {
		p.fail(from, e)
	}
	if !p.good() {
		return new(big.Int)
	}
	return v
}

func (p *plain) upTo(most uint64, e api.Errno) uint64 {
	return p.number(new(big.Int), new(big.Int).SetUint64(most), e).Uint64()
}

func (p *plain) zag() *big.Int {
	v := p.upTo(math.MaxUint64, 0)
	half := new(big.Int).SetUint64(v / 2)
	if v%2 == 1 {
		return half.Sub(big.NewInt(-1), half)
	}
	return half
}

func (p *plain) big() (v uint64) {
	for _, c := range []byte(p.raw(8)) {
		v = v<<8 | uint64(c)
	}
	return v
}

func (p *plain) text() string {
	from := p.at
	n := p.upTo(math.MaxUint64, 0)
	if n > 200 {
		p.fail(from, api.ErrWireLong)
		return ""
	}
	s := p.raw(int(n))
	for at, c := range s {
		if _, size := utf8.DecodeRuneInString(s[at:]); c == utf8.RuneError && size == 1 {
			p.fail(p.at-len(s)+at, api.ErrWireUTF8)
		}
	}
	return s
}

func (p *plain) one(which, rows int) int {
	from := p.at
	n := p.upTo(math.MaxUint64, 0)
	if n >= uint64(rows) {
		p.fail(from, api.ErrBatchForm)
	} else if n > uint64(p.told[which]) {
		p.fail(from, api.ErrBatchName)
	}
	if !p.good() {
		return -1
	}
	p.told[which] = max(p.told[which], int(n)+1)
	return int(n)
}

func (p *plain) name() string {
	if n := p.one(0, len(p.texts)); n >= 0 {
		return p.texts[n]
	}
	return ""
}

func (p *plain) small(most byte) int64 {
	c := p.raw(1)[0]
	if c > most {
		p.fail(p.at-1, api.ErrBatchForm)
	}
	return int64(c)
}

func plainDecode(b string) ([]api.Span, api.Fault) {
	if len(b) > 65536 {
		return nil, api.Fault{Err: api.ErrBatchLong}
	}
	if !strings.HasPrefix(b, "SB\x01") {
		return nil, api.Fault{Err: api.ErrBatchHead}
	}
	p := &plain{b: b, at: 3}
	var textsAt, tracesAt []int
	for n := p.upTo(math.MaxUint64, 0); n > 0 && p.good(); n-- {
		textsAt = append(textsAt, p.at)
		if s := p.text(); slices.Contains(p.texts, s) {
			p.fail(textsAt[len(textsAt)-1], api.ErrBatchName)
		} else {
			p.texts = append(p.texts, s)
		}
	}
	for n := p.upTo(math.MaxUint64, 0); n > 0 && p.good(); n-- {
		tracesAt = append(tracesAt, p.at)
		id := api.TraceID{Hi: p.big()}
		if id.Lo = p.big(); slices.Contains(p.traces, id) {
			p.fail(tracesAt[len(tracesAt)-1], api.ErrBatchName)
		}
		p.traces = append(p.traces, id)
	}
	var l []api.Span
	start := new(big.Int)
	for n := p.upTo(500, api.ErrBatchMany); n > 0 && p.good(); n-- {
		l = append(l, p.span(start))
	}
	for which, places := range [][]int{textsAt, tracesAt} {
		if p.good() && p.told[which] < len(places) {
			p.fail(places[p.told[which]], api.ErrBatchName)
		}
	}
	if p.at < len(b) {
		p.fail(p.at, api.ErrWireRest)
	}
	return l, p.fault
}

func (p *plain) span(start *big.Int) (s api.Span) {
	most := big.NewInt(math.MaxInt64)
	first := p.at
	if n := p.one(1, len(p.traces)); n >= 0 {
		s.Trace = p.traces[n]
	}
	s.ID, s.Parent = api.SpanID(p.big()), api.SpanID(p.big())
	s.Service = p.name()
	s.Op = p.name()
	both := p.small(255)
	s.Kind, s.Status = api.Kind(both%8), api.Status(both/8)
	at := p.at
	if start.Add(start, p.zag()); !start.IsInt64() {
		p.fail(at, api.ErrBatchForm)
	}
	s.Start, s.End = start.Int64(), p.number(start, most, api.ErrBatchForm).Int64()
	link := new(big.Int)
	for n := p.upTo(16, api.ErrBatchForm); n > 0 && p.good(); n-- {
		link = p.number(link, new(big.Int).SetUint64(math.MaxUint64), api.ErrBatchForm)
		s.Links = append(s.Links, api.SpanID(link.Uint64()))
	}
	for n := p.upTo(32, api.ErrBatchForm); n > 0 && p.good(); n-- {
		s.Attrs = append(s.Attrs, p.attr())
	}
	moment := new(big.Int)
	for n := p.upTo(32, api.ErrBatchForm); n > 0 && p.good(); n-- {
		moment = p.number(moment, most, api.ErrBatchForm)
		s.Events = append(s.Events, api.Event{At: moment.Int64(), Name: p.name()})
	}
	if e := span.Check(s); p.good() && e != api.OK {
		p.fail(first, e)
	}
	return s
}

func (p *plain) attr() api.Attr {
	a := api.Attr{Key: p.name()}
	a.Value.Kind = api.ValueKind(p.small(2))
	switch a.Value.Kind {
	case api.Text:
		a.Value.Text = p.name()
	case api.Int:
		a.Value.Int = p.zag().Int64()
	case api.Bool:
		a.Value.Int = p.small(1)
	}
	return a
}
