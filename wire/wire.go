// Package wire is layer 1: numbers and texts as bytes: see shared/doc/01-wire.md.
package wire

import (
	"unicode/utf8"

	"spoor/api"
)

const (
	more     = 0x80 // set in each byte of a number but the last one
	low      = 0x7f // the bits of a byte that belong to the number
	lowBits  = 7
	mostSize = 10 // 64 bits fill nine bytes and one bit of the tenth
)

// Writer lays bytes down, one behind the other.
type Writer struct {
	laid []byte
}

// NewWriter makes one without bytes.
func NewWriter() *Writer { return &Writer{} }

// Uint lays a number down, in as few bytes as may be.
func (w *Writer) Uint(v uint64) {
	for v > low {
		w.laid = append(w.laid, byte(v&low)|more)
		v >>= lowBits
	}
	w.laid = append(w.laid, byte(v))
}

// Int lays a number down that may be below 0.
func (w *Writer) Int(v int64) { w.Uint(Zig(v)) }

// Text lays a text down, its length ahead of it.
func (w *Writer) Text(s string) {
	w.Uint(uint64(len(s)))
	w.laid = append(w.laid, s...)
}

// Raw lays bytes down.
func (w *Writer) Raw(b []byte) { w.laid = append(w.laid, b...) }

// Len tells how many bytes there are.
func (w *Writer) Len() int { return len(w.laid) }

// Bytes are all of them.
func (w *Writer) Bytes() []byte { return copied(w.laid) }

// Reader takes bytes from the front.
type Reader struct {
	all   []byte
	taken int
}

// NewReader makes one of bytes.
func NewReader(b []byte) *Reader { return &Reader{all: copied(b)} }

// Uint takes a number.
func (r *Reader) Uint() (uint64, error) {
	v, size, err := r.number()
	if err != nil {
		return 0, err
	}
	r.taken += size
	return v, nil
}

// Int takes a number that may be below 0.
func (r *Reader) Int() (int64, error) {
	v, err := r.Uint()
	if err != nil {
		return 0, err
	}
	return Zag(v), nil
}

// Text takes a text of at most so many bytes.
func (r *Reader) Text(most int) (string, error) {
	if most < 0 {
		return "", fault(r.taken, api.ErrArg)
	}
	length, size, err := r.number()
	if err != nil {
		return "", err
	}
	if length > uint64(most) {
		return "", fault(r.taken, api.ErrWireLong)
	}
	from := r.taken + size
	if length > uint64(len(r.all)-from) {
		return "", fault(len(r.all), api.ErrWireEnd)
	}
	text := r.all[from : from+int(length)]
	if good := runesEnd(text); good < len(text) {
		return "", fault(from+good, api.ErrWireUTF8)
	}
	r.taken = from + len(text)
	return string(text), nil
}

// Raw takes so many bytes.
func (r *Reader) Raw(n int) ([]byte, error) {
	if n < 0 {
		return nil, fault(r.taken, api.ErrArg)
	}
	if n > r.Left() {
		return nil, fault(len(r.all), api.ErrWireEnd)
	}
	b := copied(r.all[r.taken : r.taken+n])
	r.taken += n
	return b, nil
}

// At tells how many bytes are taken.
func (r *Reader) At() int { return r.taken }

// Left tells how many are not.
func (r *Reader) Left() int { return len(r.all) - r.taken }

// End tells whether all are taken.
func (r *Reader) End() error {
	if r.Left() > 0 {
		return fault(r.taken, api.ErrWireRest)
	}
	return nil
}

// Zig makes a number that is never below 0.
func Zig(v int64) uint64 { return uint64(v)<<1 ^ uint64(v>>63) }

// Zag brings it back.
func Zag(v uint64) int64 { return int64(v>>1) ^ -int64(v&1) }

// number tells the number that stands next, and how many bytes it has. It takes none: a text that is refused behind its number must leave that number too.
func (r *Reader) number() (v uint64, size int, err error) {
	rest := r.all[r.taken:]
digits:
	for {
		switch {
		case size == mostSize:
			return 0, 0, fault(r.taken, api.ErrWireForm)
		case size == len(rest):
			return 0, 0, fault(len(r.all), api.ErrWireEnd)
		case rest[size] < more:
			break digits
		}
		v |= uint64(rest[size]&low) << (lowBits * size)
		size++
	}
	last := rest[size]
	if size > 0 && last == 0 || size == mostSize-1 && last > 1 {
		return 0, 0, fault(r.taken, api.ErrWireForm)
	}
	return v | uint64(last)<<(lowBits*size), size + 1, nil
}

// runesEnd tells how many bytes from the front on are whole runes. A rune that is written out as U+FFFD is one; only its size tells it from a byte that is none.
func runesEnd(b []byte) int {
	at := 0
	for at < len(b) {
		c, size := utf8.DecodeRune(b[at:])
		if c == utf8.RuneError && size <= 1 {
			break
		}
		at += size
	}
	return at
}

func copied(b []byte) []byte {
	c := make([]byte, len(b))
	copy(c, b)
	return c
}

func fault(at int, e api.Errno) error { return &api.Fault{At: at, Err: e} }
