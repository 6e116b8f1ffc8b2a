package span_test

import (
	"encoding/binary"
	"errors"
	"fmt"
	"math"
	"reflect"
	"strings"
	"testing"

	"spoor/api"
	"spoor/span"
)

// asks: is the error an *api.Fault of this number at this place, with no span beside it?
func asks(t *testing.T, what string, s api.Span, err error, at int, e api.Errno) {
	t.Helper()
	f, ok := err.(*api.Fault)
	if !ok || f == nil || f.At != at || f.Err != e || !errors.Is(err, e) {
		t.Errorf("%s: %v, not %v at %d", what, err, e, at)
	}
	if !reflect.DeepEqual(s, api.Span{}) {
		t.Errorf("%s: beside the error %+v", what, s)
	}
}

func encoded(t *testing.T, s api.Span) []byte {
	t.Helper()
	b, e := span.Encode(s)
	if e != api.OK {
		t.Fatalf("Encode of %+v: %v", s, e)
	}
	return b
}

// A piece of a span's bytes, by the chapter's table: a raw number, a number or a text of at most so many bytes.
type piece struct {
	field string
	b     string
	raw   bool
	most  int       // of a text
	e     api.Errno // of a number that counts: the error of too many
	count uint64    // and how many may be
}

func rawPiece(field string, v uint64) piece {
	return piece{field: field, b: string(binary.BigEndian.AppendUint64(nil, v)), raw: true}
}

func numberPiece(field string, v uint64) piece {
	return piece{field: field, b: string(binary.AppendUvarint(nil, v))}
}

func countPiece(field string, n int, most uint64, e api.Errno) piece {
	return piece{field: field, b: string(binary.AppendUvarint(nil, uint64(n))), count: most, e: e}
}

func textPiece(field, s string, most int) piece {
	return piece{field: field, b: string(binary.AppendUvarint(nil, uint64(len(s)))) + s, most: most}
}

// pieces are a span's bytes, spelt by the chapter's table.
func pieces(s api.Span) []piece {
	l := []piece{rawPiece("Hi", s.Trace.Hi), rawPiece("Lo", s.Trace.Lo), rawPiece("ID", uint64(s.ID)), rawPiece("Parent", uint64(s.Parent))}
	l = append(l, countPiece("how many Links", len(s.Links), 16, api.ErrSpanLinks))
	for _, id := range s.Links {
		l = append(l, rawPiece("a link", uint64(id)))
	}
	l = append(l, textPiece("Service", s.Service, 60), textPiece("Op", s.Op, 100))
	l = append(l, numberPiece("Kind", uint64(s.Kind)), numberPiece("Status", uint64(s.Status)), numberPiece("Start", uint64(s.Start)), numberPiece("End", uint64(s.End)))
	l = append(l, countPiece("how many Attrs", len(s.Attrs), 32, api.ErrSpanAttrs))
	for _, a := range s.Attrs {
		l = append(l, textPiece("a key", a.Key, 40), numberPiece("a value's Kind", uint64(a.Value.Kind)), textPiece("its Text", a.Value.Text, 200))
		l = append(l, piece{field: "its Int", b: string(binary.AppendVarint(nil, a.Value.Int))})
	}
	l = append(l, countPiece("how many Events", len(s.Events), 32, api.ErrSpanEvents))
	for _, e := range s.Events {
		l = append(l, numberPiece("At", uint64(e.At)), textPiece("Name", e.Name, 100))
	}
	return l
}

func spelt(l []piece) string {
	var b strings.Builder
	for _, p := range l {
		b.WriteString(p.b)
	}
	return b.String()
}

// greatest has the most bytes that a span that may be can have.
func greatest() api.Span {
	s := api.Span{
		Trace: api.TraceID{Hi: math.MaxUint64, Lo: math.MaxUint64}, ID: math.MaxUint64, Parent: math.MaxUint64, Links: links(1<<62, 16),
		Service: strings.Repeat("s", 60), Op: strings.Repeat("ö", 50), Kind: 4, Status: 2, Start: api.MaxTime, End: api.MaxTime,
	}
	for i := range 32 {
		s.Attrs = append(s.Attrs, api.Attr{Key: fmt.Sprintf("k%039d", i), Value: api.Value{Text: strings.Repeat("t", 200)}})
		s.Events = append(s.Events, api.Event{At: api.MaxTime, Name: fmt.Sprintf("%0100d", i)})
	}
	return s
}

// goods are spans that may be, of all sizes.
func goods() []api.Span {
	l := append(tellings(), plainOne(), richOne(), greatest())
	for _, n := range []int64{0, 1, -1, 63, -64, 64, -65, math.MaxInt64, math.MinInt64} {
		l = append(l, with(plainOne(), func(s *api.Span) {
			s.Attrs = []api.Attr{{Key: "k", Value: api.Value{Kind: api.Int, Int: n}}}
		}))
	}
	for _, at := range []int64{0, 1, 127, 128, 1<<56 - 1, 1 << 56, api.MaxTime} {
		l = append(l, with(plainOne(), func(s *api.Span) { s.Start, s.End, s.Events = at, at, []api.Event{{At: at, Name: "e"}} }))
	}
	for many := range 17 {
		l = append(l, with(plainOne(), func(s *api.Span) {
			s.Links, s.Attrs, s.Kind, s.Status = links(2, many), keyed(2*many), api.Kind(many%5), api.Status(many%3)
		}))
	}
	return l
}

// The chapter's examples.

const bytesOfS = "\x00\x00\x00\x00\x00\x00\x00\x00" + "\x00\x00\x00\x00\x00\x00\x00\x07" + "\x00\x00\x00\x00\x00\x00\x00\x01" + "\x00\x00\x00\x00\x00\x00\x00\x00" +
	"\x00" + "\x01a" + "\x01b" + "\x00\x00" + "\x05\x09" + "\x00\x00"

func TestExampleBytes(t *testing.T) {
	if b := encoded(t, plainOne()); string(b) != bytesOfS || len(b) != 43 {
		t.Errorf("bytes of S: % x", b)
	}
	s, err := span.Decode([]byte(bytesOfS))
	if err != nil || !reflect.DeepEqual(s, plainOne()) {
		t.Errorf("Decode of S's bytes: %+v, %v", s, err)
	}
	for _, x := range []struct {
		what, b string
		at      int
		e       api.Errno
	}{
		{"all but the last one", bytesOfS[:42], 42, api.ErrWireEnd},
		{"a byte 00 behind", bytesOfS + "\x00", 43, api.ErrWireRest},
		{"the ID's bytes all 0", bytesOfS[:16] + strings.Repeat("\x00", 8) + bytesOfS[24:], 0, api.ErrSpanID},
		{"17 links", bytesOfS[:32] + "\x11" + bytesOfS[33:], 32, api.ErrSpanLinks},
	} {
		s, err := span.Decode([]byte(x.b))
		asks(t, x.what, s, err, x.at, x.e)
	}
}

// P4.3: there and back, one form.

func TestThereAndBack(t *testing.T) {
	for _, s := range goods() {
		b := encoded(t, s)
		if want := spelt(pieces(s)); string(b) != want {
			t.Errorf("Encode of %+v: % x, not % x", s, b, want)
		}
		back, err := span.Decode(b)
		if err != nil || !sameFields(back, s) {
			t.Errorf("Decode of % x: %+v, %v, not %+v", b, back, err, s)
		}
	}
}

func TestOneForm(t *testing.T) {
	b := encoded(t, richOne())
	taken := 0
	for at := range b {
		for c := range 256 {
			turned := append([]byte(nil), b...)
			turned[at] = byte(c)
			s, err := span.Decode(turned)
			if err != nil {
				if f, ok := err.(*api.Fault); !ok || f.At < 0 || f.At > len(turned) || !reflect.DeepEqual(s, api.Span{}) {
					t.Fatalf("Decode of % x: %+v, %v", turned, s, err)
				}
				continue
			}
			taken++
			if again := encoded(t, s); string(again) != string(turned) {
				t.Fatalf("two forms: % x and % x", turned, again)
			}
		}
	}
	if taken < 1000 {
		t.Errorf("only %d were taken", taken)
	}
}

func TestEncodeRefuses(t *testing.T) {
	for _, x := range wrongs() {
		b, e := span.Encode(with(richOne(), x.turn))
		answers(t, "Encode", e, x.want)
		if len(b) != 0 {
			t.Errorf("beside %v: % x", e, b)
		}
	}
}

// P4.5.

func TestSizes(t *testing.T) {
	if n := len(encoded(t, greatest())); n != 11705 {
		t.Errorf("the greatest one has %d bytes", n)
	}
	if n := len(encoded(t, plainOne())); n != 43 {
		t.Errorf("the least one has %d bytes", n)
	}
	for _, s := range goods() {
		if n := len(encoded(t, s)); n < 43 || n > 11705 {
			t.Errorf("%+v has %d bytes", s, n)
		}
	}
}

// Decode: what is wrong, and where.

func TestDecodeOfTooFewBytes(t *testing.T) {
	for _, whole := range []api.Span{plainOne(), richOne()} {
		b := encoded(t, whole)
		for n := range b {
			s, err := span.Decode(b[:n])
			asks(t, fmt.Sprintf("%d bytes of % x", n, b), s, err, n, api.ErrWireEnd)
		}
	}
	s, err := span.Decode(nil)
	asks(t, "nothing", s, err, 0, api.ErrWireEnd)
	s, err = span.Decode([]byte(bytesOfS[:40] + "\x85\x80"))
	asks(t, "bytes that end within a number", s, err, 42, api.ErrWireEnd)
}

func TestDecodeOfTooManyBytes(t *testing.T) {
	for _, whole := range []api.Span{plainOne(), richOne(), greatest()} {
		b := encoded(t, whole)
		for _, more := range []string{"\x00", "\xff", string(b)} {
			s, err := span.Decode([]byte(string(b) + more))
			asks(t, "something is left", s, err, len(b), api.ErrWireRest)
		}
	}
}

// spoilt are the ways in which a piece can be wrong: the bytes in its place, where in them it is told, and as what.
func (p piece) spoilt() []struct {
	b  string
	at int
	e  api.Errno
} {
	type way = struct {
		b  string
		at int
		e  api.Errno
	}
	var l []way
	if !p.raw {
		l = append(l, way{"\x80\x00", 0, api.ErrWireForm}, way{strings.Repeat("\xff", 9) + "\x02", 0, api.ErrWireForm})
	}
	if p.most > 0 {
		long := string(binary.AppendUvarint(nil, uint64(p.most+1)))
		l = append(l, way{long + strings.Repeat("x", p.most+1), 0, api.ErrWireLong}, way{long, 0, api.ErrWireLong})
		l = append(l, way{strings.Repeat("\xff", 9) + "\x01", 0, api.ErrWireLong})
		l = append(l, way{"\x03ab\xff", 3, api.ErrWireUTF8}, way{"\x02\xc3(", 1, api.ErrWireUTF8})
	}
	if p.count > 0 {
		l = append(l, way{string(binary.AppendUvarint(nil, p.count+1)), 0, p.e}, way{strings.Repeat("\xff", 9) + "\x01", 0, p.e})
	}
	return l
}

func TestDecodeTellsTheFirstWrongThing(t *testing.T) {
	all := pieces(richOne())
	for i, p := range all {
		ahead, behind := spelt(all[:i]), spelt(all[i+1:])
		for _, w := range p.spoilt() {
			for _, rest := range []string{behind, behind + "\x00", strings.Repeat("\xff", 300)} {
				s, err := span.Decode([]byte(ahead + w.b + rest))
				asks(t, fmt.Sprintf("%s % x", p.field, w.b), s, err, len(ahead)+w.at, w.e)
			}
		}
	}
}

func TestDecodeTellsBytesAheadOfTheSpan(t *testing.T) {
	wrong := "\x00\x00\x00\x00\x00\x00\x00\x00" + "\x00\x00\x00\x00\x00\x00\x00\x00" + bytesOfS[16:]
	s, err := span.Decode([]byte(wrong))
	asks(t, "Trace 0", s, err, 0, api.ErrSpanID)
	s, err = span.Decode([]byte(wrong + "\x00"))
	asks(t, "Trace 0, and a byte behind", s, err, 43, api.ErrWireRest)
	s, err = span.Decode([]byte(wrong[:42]))
	asks(t, "Trace 0, and a byte less", s, err, 42, api.ErrWireEnd)
	s, err = span.Decode([]byte(wrong[:41] + "\x21\x00"))
	asks(t, "Trace 0, and 33 attributes", s, err, 41, api.ErrSpanAttrs)
}

// replaced are the bytes of a span in which the piece of a field is another one.
func replaced(s api.Span, field, b string) string {
	l := pieces(s)
	for i := range l {
		if l[i].field == field {
			l[i].b = b
			return spelt(l)
		}
	}
	return ""
}

func TestDecodeOfSpansThatMayNotBe(t *testing.T) {
	from := with(plainOne(), func(s *api.Span) {
		s.Links, s.Attrs, s.Events = []api.SpanID{5}, []api.Attr{{Key: "k"}}, []api.Event{{At: 3, Name: "e"}}
	})
	number := func(v uint64) string { return string(binary.AppendUvarint(nil, v)) }
	raw := func(v uint64) string { return string(binary.BigEndian.AppendUint64(nil, v)) }
	late := []uint64{api.MaxTime + 1, math.MaxInt64, 1 << 63, 1<<63 + 5, math.MaxUint64 - 3, math.MaxUint64}
	for _, x := range []struct {
		field string
		bs    []string
		e     api.Errno
	}{
		{"ID", []string{raw(0)}, api.ErrSpanID},
		{"Lo", []string{raw(0)}, api.ErrSpanID},
		{"a link", []string{raw(0), raw(1)}, api.ErrSpanLinks},
		{"Service", []string{"\x00", "\x03a b", "\x01\x7f"}, api.ErrSpanName},
		{"Op", []string{"\x00", "\x01\x1f"}, api.ErrSpanName},
		{"a key", []string{"\x00", "\x019", "\x01K"}, api.ErrSpanAttrs},
		{"its Int", []string{"\x01", "\x02"}, api.ErrSpanAttrs},
		{"Name", []string{"\x00", "\x01\n"}, api.ErrSpanEvents},
	} {
		for _, b := range x.bs {
			s, err := span.Decode([]byte(replaced(from, x.field, b)))
			asks(t, fmt.Sprintf("%s % x", x.field, b), s, err, 0, x.e)
		}
	}
	for _, v := range []uint64{5, 255, 256, 1 << 31, 1 << 32, 1<<32 + 1, 1 << 63, 1<<63 + 1, math.MaxUint64} {
		for field, e := range map[string]api.Errno{"Kind": api.ErrSpanKind, "Status": api.ErrSpanKind, "a value's Kind": api.ErrSpanAttrs} {
			s, err := span.Decode([]byte(replaced(from, field, number(v))))
			asks(t, fmt.Sprint(field, " ", v), s, err, 0, e)
		}
	}
	for _, v := range late {
		for field, e := range map[string]api.Errno{"Start": api.ErrSpanTime, "End": api.ErrSpanTime, "At": api.ErrSpanEvents} {
			s, err := span.Decode([]byte(replaced(from, field, number(v))))
			asks(t, fmt.Sprint(field, " ", v), s, err, 0, e)
		}
	}
	s, err := span.Decode([]byte(replaced(from, "End", number(4))))
	asks(t, "End ahead of Start", s, err, 0, api.ErrSpanTime)
}

func TestDecodeTellsChecksFirst(t *testing.T) {
	all := pieces(plainOne())
	kind := replaced(plainOne(), "Kind", "\x09")
	s, err := span.Decode([]byte(kind))
	asks(t, "Kind 9", s, err, 0, api.ErrSpanKind)
	for i := range all {
		switch all[i].field {
		case "Kind":
			all[i].b = "\x09"
		case "End":
			all[i].b = "\x04"
		}
	}
	s, err = span.Decode([]byte(spelt(all)))
	asks(t, "Kind 9 and End 4", s, err, 0, api.ErrSpanTime)
}

// P3: memory.

func TestBytesShareNothing(t *testing.T) {
	s := roomy(richOne())
	first, second := encoded(t, s), encoded(t, s)
	want := string(second)
	for i := range first[:cap(first)] {
		first[:cap(first)][i] = 0xee
	}
	scribble(s)
	if string(second) != want {
		t.Errorf("bytes: % x, not % x", second, want)
	}
	room := append([]byte(want), "spare"...)
	a, err := span.Decode(room[:len(want)])
	b, errb := span.Decode(room[:len(want)])
	if err != nil || errb != nil || string(room) != want+"spare" {
		t.Fatalf("Decode: %v, %v; what was handed in is % x now", err, errb, room)
	}
	for i := range room {
		room[i] = 0xee
	}
	scribble(a)
	if !sameFields(b, richOne()) {
		t.Errorf("what Decode told shares memory: %+v", b)
	}
}

func TestFaultsAreApart(t *testing.T) {
	b := []byte(bytesOfS[:32] + "\x11")
	_, err := span.Decode(b)
	err.(*api.Fault).At = 99
	s, err := span.Decode(b)
	asks(t, "17 links", s, err, 32, api.ErrSpanLinks)
}
