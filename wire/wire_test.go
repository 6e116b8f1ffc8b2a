package wire_test

import (
	"bytes"
	"errors"
	"fmt"
	"math"
	"math/big"
	"slices"
	"strings"
	"testing"

	"spoor/api"
	"spoor/wire"
)

// asks: is the error an *api.Fault of this number at this place (api.OK: none at all)?
func asks(t *testing.T, what string, err error, at int, e api.Errno) {
	t.Helper()
	if e == api.OK {
		if err != nil {
			t.Errorf("%s: %v, not nil", what, err)
		}
		return
	}
	f, ok := err.(*api.Fault)
	if !ok || f == nil {
		t.Errorf("%s: %v is no *api.Fault", what, err)
		return
	}
	if f.At != at || f.Err != e || !errors.Is(err, e) {
		t.Errorf("%s: %v, not %v at %d", what, err, e, at)
	}
}

// edges are the numbers round which something changes: powers of two, and their neighbours.
func edges() []uint64 {
	l := []uint64{0, 300, 12345678901234567890, math.MaxUint64}
	for k := range 64 {
		p := uint64(1) << k
		l = append(l, p-1, p, p+1, ^p)
	}
	return l
}

func uintBytes(v uint64) []byte {
	w := wire.NewWriter()
	w.Uint(v)
	return w.Bytes()
}

// strung tells all texts of up to most of these letters.
func strung(letters string, most int, tell func(string)) {
	var behind func(s string, left int)
	behind = func(s string, left int) {
		tell(s)
		for i := 0; left > 0 && i < len(letters); i++ {
			behind(s+letters[i:i+1], left-1)
		}
	}
	behind("", most)
}

// spelt is the number at the front of bytes, by the chapter's words: first the last byte is looked for, then the rest is asked.
func spelt(b string, at int) (v uint64, size int, e api.Errno, place int) {
	rest := b[at:]
	last := slices.IndexFunc([]byte(rest), func(c byte) bool { return c < 128 })
	switch {
	case last < 0 && len(rest) < 10:
		return 0, 0, api.ErrWireEnd, len(b)
	case last < 0 || last > 9:
		return 0, 0, api.ErrWireForm, at
	case last == 9 && rest[9] > 1:
		return 0, 0, api.ErrWireForm, at
	case last > 0 && rest[last] == 0:
		return 0, 0, api.ErrWireForm, at
	}
	sum := new(big.Int)
	for i := last; i >= 0; i-- {
		sum.Lsh(sum, 7)
		sum.Add(sum, big.NewInt(int64(rest[i]%128)))
	}
	return sum.Uint64(), last + 1, api.OK, 0
}

// The chapter's table, row by row.

func TestExampleNumbers(t *testing.T) {
	for _, x := range []struct {
		v uint64
		b string
	}{
		{0, "\x00"}, {127, "\x7f"}, {128, "\x80\x01"}, {300, "\xac\x02"},
		{math.MaxUint64, strings.Repeat("\xff", 9) + "\x01"},
	} {
		if b := uintBytes(x.v); string(b) != x.b {
			t.Errorf("bytes of Uint of %d: % x, not % x", x.v, b, x.b)
		}
	}
	for _, x := range []struct {
		v int64
		z uint64
	}{{0, 0}, {-1, 1}, {1, 2}, {-2, 3}, {math.MinInt64, math.MaxUint64}} {
		if z := wire.Zig(x.v); z != x.z {
			t.Errorf("Zig of %d: %d, not %d", x.v, z, x.z)
		}
	}
	w := wire.NewWriter()
	w.Int(-3)
	if b := w.Bytes(); string(b) != "\x05" {
		t.Errorf("bytes of Int of -3: % x", b)
	}
}

func TestExampleTexts(t *testing.T) {
	w := wire.NewWriter()
	w.Text("ab")
	if b := w.Bytes(); string(b) != "\x02ab" {
		t.Errorf("bytes of Text of ab: % x", b)
	}
	w.Text("")
	if b := w.Bytes(); string(b) != "\x02ab\x00" {
		t.Errorf("and of nothing: % x", b)
	}
	r := wire.NewReader([]byte("\x03a\xc3("))
	_, err := r.Text(5)
	asks(t, "Text(5) of 03 61 c3 28", err, 2, api.ErrWireUTF8)
	_, err = r.Text(2)
	asks(t, "Text(2) of 03 61 c3 28", err, 0, api.ErrWireLong)
	_, err = wire.NewReader([]byte("\x03a")).Text(5)
	asks(t, "Text(5) of 03 61", err, 2, api.ErrWireEnd)
}

func TestExampleFaults(t *testing.T) {
	nine := strings.Repeat("\xff", 9)
	for _, x := range []struct {
		b  string
		at int
		e  api.Errno
	}{
		{"\x80\x00", 0, api.ErrWireForm}, {"\x80", 1, api.ErrWireEnd}, {"", 0, api.ErrWireEnd},
		{nine + "\x02", 0, api.ErrWireForm}, {nine + "\xff", 0, api.ErrWireForm}, {nine, 9, api.ErrWireEnd},
	} {
		_, err := wire.NewReader([]byte(x.b)).Uint()
		asks(t, fmt.Sprintf("Uint of % x", x.b), err, x.at, x.e)
	}
	r := wire.NewReader([]byte("\x07"))
	_, err := r.Raw(2)
	asks(t, "Raw(2)", err, 1, api.ErrWireEnd)
	_, err = r.Raw(-1)
	asks(t, "Raw(-1)", err, 0, api.ErrArg)
	b, err := r.Raw(0)
	asks(t, "Raw(0)", err, 0, api.OK)
	if len(b) != 0 || r.At() != 0 || r.Left() != 1 {
		t.Errorf("Raw(0): % x, taken %d, left %d", b, r.At(), r.Left())
	}
	asks(t, "End", r.End(), 0, api.ErrWireRest)
}

// P1.1: there and back.

// goods are texts that are UTF-8, those at the edges of its lengths among them.
func goods() []string {
	return []string{
		"", "a", "\x00", "\x7f", "\u0080", "\u07ff", "\u0800", "\ud7ff", "\ue000", "\ufffd", "\uffff", "\U00010000", "\U0010ffff",
		"Spuren im Schnee: äöü ß € 𝄞", strings.Repeat("x", 127), strings.Repeat("y", 128), strings.Repeat("ä", 8192),
	}
}

func TestThereAndBack(t *testing.T) {
	raws := [][]byte{nil, {}, {0}, {0x80}, {0xff, 0xfe}, bytes.Repeat([]byte{0xc3}, 300)}
	w := wire.NewWriter()
	for _, v := range edges() {
		w.Uint(v)
		w.Int(int64(v))
		w.Int(-int64(v))
	}
	for _, s := range goods() {
		w.Text(s)
	}
	for _, b := range raws {
		w.Raw(b)
	}
	r := wire.NewReader(w.Bytes())
	if r.At() != 0 || r.Left() != w.Len() {
		t.Fatalf("at first: taken %d, left %d of %d", r.At(), r.Left(), w.Len())
	}
	for _, v := range edges() {
		u, err := r.Uint()
		i, erri := r.Int()
		n, errn := r.Int()
		if u != v || i != int64(v) || n != -int64(v) || err != nil || erri != nil || errn != nil {
			t.Fatalf("of %d: %d, %d, %d: %v, %v, %v", v, u, i, n, err, erri, errn)
		}
	}
	for _, s := range goods() {
		if got, err := r.Text(len(s)); got != s || err != nil {
			t.Fatalf("Text of %q: %q, %v", s, got, err)
		}
	}
	for _, b := range raws {
		if got, err := r.Raw(len(b)); !bytes.Equal(got, b) || err != nil {
			t.Fatalf("Raw of % x: % x, %v", b, got, err)
		}
	}
	asks(t, "End", r.End(), 0, api.OK)
	if r.At() != w.Len() || r.Left() != 0 {
		t.Errorf("at the end: taken %d of %d, left %d", r.At(), w.Len(), r.Left())
	}
}

func TestWriterTakesAnyBytes(t *testing.T) {
	w := wire.NewWriter()
	if w.Len() != 0 || len(w.Bytes()) != 0 {
		t.Errorf("a new Writer has %d bytes", w.Len())
	}
	w.Text("\xff\xc3(")
	w.Raw([]byte{0x80, 0x00})
	if b := w.Bytes(); string(b) != "\x03\xff\xc3(\x80\x00" || w.Len() != 6 {
		t.Errorf("bytes: % x, Len %d", b, w.Len())
	}
}

func TestTextOfAnyMost(t *testing.T) {
	for _, most := range []int{3, 4, math.MaxInt} {
		r := wire.NewReader([]byte("\x03abcd"))
		s, err := r.Text(most)
		if s != "abc" || err != nil || r.At() != 4 || r.Left() != 1 {
			t.Errorf("Text(%d): %q, %v, taken %d, left %d", most, s, err, r.At(), r.Left())
		}
	}
	r := wire.NewReader([]byte("\x00"))
	if s, err := r.Text(0); s != "" || err != nil || r.At() != 1 {
		t.Errorf("Text(0) of an empty text: %q, %v, taken %d", s, err, r.At())
	}
}

// P1.2: one form. Uint is held against the chapter's words at bytes of all kinds.

// agrees asks Uint and Int of what stands at a place.
func agrees(t *testing.T, b string, at int) {
	t.Helper()
	v, size, e, place := spelt(b, at)
	r := wire.NewReader([]byte(b))
	if _, err := r.Raw(at); err != nil {
		t.Fatal(err)
	}
	got, err := r.Uint()
	asks(t, "Uint", err, place, e)
	if got != v || r.At() != at+size || r.Left() != len(b)-at-size {
		t.Errorf("Uint of % x at %d: %d, taken %d, not %d, %d", b, at, got, r.At(), v, at+size)
	}
	if err == nil && string(uintBytes(got)) != b[at:r.At()] {
		t.Errorf("%d has two forms: % x and % x", got, b[at:r.At()], uintBytes(got))
	}
	s := wire.NewReader([]byte(b))
	s.Raw(at)
	i, err := s.Int()
	asks(t, "Int", err, place, e)
	if i != wire.Zag(v) || s.At() != at+size {
		t.Errorf("Int of % x at %d: %d, taken %d", b, at, i, s.At())
	}
	w := wire.NewWriter()
	w.Int(i)
	if err == nil && string(w.Bytes()) != b[at:s.At()] {
		t.Errorf("%d has two forms: % x and % x", i, b[at:s.At()], w.Bytes())
	}
}

func TestUintOfAllBytes(t *testing.T) {
	for c := range 256 {
		for d := range 256 {
			agrees(t, string([]byte{byte(c), byte(d)}), 0)
		}
		agrees(t, string([]byte{byte(c)}), 0)
		agrees(t, string([]byte{5, byte(c)}), 1)
	}
	strung("\x00\x01\x7f\x80\x81\xff", 5, func(s string) { agrees(t, s, 0) })
}

func TestUintOfLongBytes(t *testing.T) {
	for _, fill := range []string{"\x80", "\xff", "\xd5"} {
		for n := range 13 {
			strung("\x00\x01\x02\x03\x7f\x80\x81\xff", 3, func(end string) {
				b := strings.Repeat(fill, n) + end
				agrees(t, b, 0)
				agrees(t, "\x00\xff"+b, 2)
			})
		}
	}
}

func TestTextHasOneForm(t *testing.T) {
	for _, b := range []string{"\x00", "\x01a", "\x80\x01" + strings.Repeat("b", 128), "\x04\xf0\x9f\x90\xbe"} {
		r := wire.NewReader([]byte(b + "\xff"))
		s, err := r.Text(200)
		w := wire.NewWriter()
		w.Text(s)
		if err != nil || string(w.Bytes()) != b || r.At() != len(b) {
			t.Errorf("Text of % x: %q, %v, laid down as % x", b, s, err, w.Bytes())
		}
	}
	_, err := wire.NewReader([]byte("\x81\x00a")).Text(5)
	asks(t, "Text of a length that is not the shortest", err, 0, api.ErrWireForm)
}

func TestNoNumberBeginsAnother(t *testing.T) {
	l := edges()
	for _, v := range l {
		for _, o := range l {
			if v != o && bytes.HasPrefix(uintBytes(o), uintBytes(v)) {
				t.Errorf("% x of %d begins % x of %d", uintBytes(v), v, uintBytes(o), o)
			}
		}
	}
}

// P1.3: few bytes.

func TestFewBytes(t *testing.T) {
	for n := 1; n <= 10; n++ {
		greatest := uint64(math.MaxUint64)
		if n < 10 {
			greatest = 1<<(7*n) - 1
		}
		if size := len(uintBytes(greatest)); size != n {
			t.Errorf("%d has %d bytes, not %d", greatest, size, n)
		}
		if n < 10 && len(uintBytes(greatest+1)) != n+1 {
			t.Errorf("%d has %d bytes, not %d", greatest+1, len(uintBytes(greatest+1)), n+1)
		}
	}
	for _, v := range edges() {
		for _, o := range edges() {
			if v < o && len(uintBytes(v)) > len(uintBytes(o)) {
				t.Errorf("%d has more bytes than %d", v, o)
			}
		}
	}
}

// P1.4: Zig and Zag.

func TestZigAndZag(t *testing.T) {
	for _, v := range edges() {
		if wire.Zig(wire.Zag(v)) != v {
			t.Errorf("Zig of Zag of %d: %d", v, wire.Zig(wire.Zag(v)))
		}
		i := int64(v)
		if wire.Zag(wire.Zig(i)) != i {
			t.Errorf("Zag of Zig of %d: %d", i, wire.Zag(wire.Zig(i)))
		}
		want := new(big.Int).Lsh(big.NewInt(i), 1)
		if i < 0 {
			want.Neg(want)
			want.Sub(want, big.NewInt(1))
		}
		if wire.Zig(i) != want.Uint64() || !want.IsUint64() {
			t.Errorf("Zig of %d: %d, not %v", i, wire.Zig(i), want)
		}
	}
}

func TestZigIsSmallOfSmall(t *testing.T) {
	for k := 1; k <= 64; k++ {
		bound := new(big.Int).Lsh(big.NewInt(1), uint(k))
		half := new(big.Int).Rsh(bound, 1)
		for _, v := range edges() {
			i := big.NewInt(int64(v))
			within := i.Cmp(new(big.Int).Neg(half)) >= 0 && i.Cmp(half) < 0
			below := new(big.Int).SetUint64(wire.Zig(int64(v))).Cmp(bound) < 0
			if within != below {
				t.Errorf("k %d: of %v: within %v, Zig below %v", k, i, within, below)
			}
		}
	}
}

// P1.5: with an error nothing is taken, and the same call answers the same again.

func TestErrorsTakeNothing(t *testing.T) {
	number := func(r *wire.Reader) (bool, error) { v, err := r.Uint(); return v == 0, err }
	signed := func(r *wire.Reader) (bool, error) { v, err := r.Int(); return v == 0, err }
	text := func(most int) func(r *wire.Reader) (bool, error) {
		return func(r *wire.Reader) (bool, error) { s, err := r.Text(most); return s == "", err }
	}
	raw := func(n int) func(r *wire.Reader) (bool, error) {
		return func(r *wire.Reader) (bool, error) { b, err := r.Raw(n); return len(b) == 0, err }
	}
	end := func(r *wire.Reader) (bool, error) { return true, r.End() }
	long := strings.Repeat("\xff", 9)
	for _, x := range []struct {
		what string
		b    string // behind three bytes that are taken
		call func(*wire.Reader) (bool, error)
		at   int
		e    api.Errno
	}{
		{"Uint", "", number, 3, api.ErrWireEnd}, {"Uint", "\x80\x80", number, 5, api.ErrWireEnd},
		{"Uint", "\x81\x80\x00", number, 3, api.ErrWireForm}, {"Uint", long + "\x02", number, 3, api.ErrWireForm},
		{"Uint", long + "\x80\x01", number, 3, api.ErrWireForm}, {"Uint", long + "\x00", number, 3, api.ErrWireForm},
		{"Int", "\xff", signed, 4, api.ErrWireEnd}, {"Int", "\xff\x00\x01", signed, 3, api.ErrWireForm},
		{"Text: most ahead of all", "", text(-1), 3, api.ErrArg}, {"Text: most ahead of all", "\x80\x00", text(math.MinInt), 3, api.ErrArg},
		{"Text: its number", "\x80\x00", text(9), 3, api.ErrWireForm}, {"Text: its number", "\x80", text(9), 4, api.ErrWireEnd},
		{"Text: long ahead of end", "\x04a", text(3), 3, api.ErrWireLong}, {"Text: long", "\x01a", text(0), 3, api.ErrWireLong},
		{"Text: longest", long + "\x01a", text(math.MaxInt), 3, api.ErrWireLong},
		{"Text: as long as a most", strings.Repeat("\xff", 8) + "\x7fa", text(math.MaxInt), 13, api.ErrWireEnd},
		{"Text: end ahead of UTF-8", "\x04\xff\xff\xff", text(9), 7, api.ErrWireEnd}, {"Text: end", "\x01", text(1), 4, api.ErrWireEnd},
		{"Text: UTF-8", "\x03ab\xff", text(9), 6, api.ErrWireUTF8}, {"Text: a rune that goes on behind it", "\x01\xc3\xa4", text(9), 4, api.ErrWireUTF8},
		{"Text: UTF-8 behind a longer number", "\x80\x01" + strings.Repeat("a", 127) + "\xc3", text(128), 132, api.ErrWireUTF8},
		{"Raw: below 0", "", raw(math.MinInt), 3, api.ErrArg}, {"Raw: below 0", "ab", raw(-1), 3, api.ErrArg},
		{"Raw", "ab", raw(3), 5, api.ErrWireEnd}, {"Raw", "", raw(1), 3, api.ErrWireEnd}, {"Raw", "a", raw(math.MaxInt), 4, api.ErrWireEnd},
		{"End", "a", end, 3, api.ErrWireRest},
	} {
		r := wire.NewReader([]byte("abc" + x.b))
		r.Raw(3)
		for range 3 {
			zero, err := x.call(r)
			asks(t, x.what, err, x.at, x.e)
			if !zero || r.At() != 3 || r.Left() != len(x.b) {
				t.Errorf("%s of % x: zero %v, taken %d, left %d", x.what, x.b, zero, r.At(), r.Left())
			}
		}
		if rest, err := r.Raw(len(x.b)); string(rest) != x.b || err != nil {
			t.Errorf("%s: behind it % x, %v, not % x", x.what, rest, err, x.b)
		}
	}
}

// UTF-8, by Unicode's table of well-formed bytes.

// formed tells how many bytes the rune at the front has; 0: there is none.
func formed(s string) int {
	for _, x := range []struct{ first, last, low, high, size int }{
		{0x00, 0x7f, 0, 0, 1}, {0xc2, 0xdf, 0x80, 0xbf, 2}, {0xe0, 0xe0, 0xa0, 0xbf, 3}, {0xe1, 0xec, 0x80, 0xbf, 3},
		{0xed, 0xed, 0x80, 0x9f, 3}, {0xee, 0xef, 0x80, 0xbf, 3}, {0xf0, 0xf0, 0x90, 0xbf, 4}, {0xf1, 0xf3, 0x80, 0xbf, 4}, {0xf4, 0xf4, 0x80, 0x8f, 4},
	} {
		if int(s[0]) < x.first || int(s[0]) > x.last {
			continue
		}
		if len(s) < x.size || x.size > 1 && (int(s[1]) < x.low || int(s[1]) > x.high) {
			return 0
		}
		for i := 2; i < x.size; i++ {
			if s[i] < 0x80 || s[i] > 0xbf {
				return 0
			}
		}
		return x.size
	}
	return 0
}

func TestUTF8OfAllKinds(t *testing.T) {
	strung("\x00a\x7f\x80\x8f\x90\x9f\xa0\xbf\xc0\xc1\xc2\xdf\xe0\xe1\xed\xef\xf0\xf3\xf4\xf5\xff", 4, func(s string) {
		at := 0
		for at < len(s) && formed(s[at:]) > 0 {
			at += formed(s[at:])
		}
		r := wire.NewReader([]byte(string([]byte{byte(len(s))}) + s))
		got, err := r.Text(4)
		if at == len(s) {
			if got != s || err != nil || r.Left() != 0 {
				t.Fatalf("Text of % x: %q, %v", s, got, err)
			}
			return
		}
		asks(t, "Text", err, 1+at, api.ErrWireUTF8)
		if got != "" || r.At() != 0 {
			t.Fatalf("Text of % x: %q, taken %d", s, got, r.At())
		}
	})
}

func TestNoRunes(t *testing.T) {
	for _, s := range []string{
		"\xc0\x80", "\xe0\x80\x80", "\xf0\x80\x80\x80", // not the shortest
		"\xed\xa0\x80", "\xed\xbf\xbf", "\xed\xa0\xbd\xed\xb0\x80", // halves of pairs
		"\xf4\x90\x80\x80", "\xf8\x88\x80\x80\x80", // above 10ffff
		"\x80", "\xbf", "\xff", "\xe2\x82", "\xf0\x9f\x90",
	} {
		w := wire.NewWriter()
		w.Text("ä" + s + "b")
		r := wire.NewReader(w.Bytes())
		got, err := r.Text(99)
		asks(t, "Text", err, 3, api.ErrWireUTF8)
		if got != "" || r.At() != 0 {
			t.Errorf("Text with % x: %q, taken %d", s, got, r.At())
		}
	}
}

// P3: nothing is kept or written into; an answer is new memory, its spare room too.

// scribble writes over a list and its spare room.
func scribble(b []byte) {
	b = b[:cap(b)]
	for i := range b {
		b[i] = 0xee
	}
}

func TestWriterSharesNothing(t *testing.T) {
	room := []byte("abcdef")
	w := wire.NewWriter()
	w.Raw(room[:2])
	w.Uint(7)
	if string(room) != "abcdef" {
		t.Errorf("what was handed in is %q now", room)
	}
	scribble(room)
	first := w.Bytes()
	scribble(w.Bytes())
	w.Uint(8)
	second := w.Bytes()
	scribble(first)
	if string(second) != "ab\x07\x08" || string(w.Bytes()) != "ab\x07\x08" {
		t.Errorf("bytes: %q, %q", second, w.Bytes())
	}
}

func TestReaderSharesNothing(t *testing.T) {
	room := []byte("ab\x01cde")
	r := wire.NewReader(room[:5])
	if r.Left() != 5 {
		t.Errorf("left: %d", r.Left())
	}
	first, _ := r.Raw(1)
	scribble(first)
	second, _ := r.Raw(1)
	s, _ := r.Text(1)
	if string(room) != "ab\x01cde" {
		t.Errorf("what was handed in is %q now", room)
	}
	scribble(room)
	scribble(second)
	last, err := r.Raw(1)
	if s != "c" || string(last) != "d" || err != nil || r.End() != nil {
		t.Errorf("Text %q, Raw %q, %v", s, last, err)
	}
}

func TestFaultsAreApart(t *testing.T) {
	r := wire.NewReader(nil)
	_, err := r.Uint()
	err.(*api.Fault).At = 99
	_, err = r.Uint()
	asks(t, "Uint of nothing", err, 0, api.ErrWireEnd)
	asks(t, "End of nothing", r.End(), 0, api.OK)
}

// P4: Writers and Readers have nothing to do with one another.

func TestThingsAreApart(t *testing.T) {
	v, w := wire.NewWriter(), wire.NewWriter()
	v.Uint(1)
	w.Uint(2)
	if string(v.Bytes()) != "\x01" || string(w.Bytes()) != "\x02" {
		t.Errorf("bytes: % x, % x", v.Bytes(), w.Bytes())
	}
	b := []byte("\x01\x02")
	r, s := wire.NewReader(b), wire.NewReader(b)
	r.Uint()
	if n, err := s.Uint(); n != 1 || err != nil || r.At() != 1 {
		t.Errorf("Uint: %d, %v; the other one has taken %d", n, err, r.At())
	}
}
