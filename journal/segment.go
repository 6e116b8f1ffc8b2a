package journal

import (
	"strconv"
	"strings"

	"spoor/api"
	"spoor/frame"
)

const (
	headKind   = 1
	recordKind = 2

	frameHead  = 24 // bytes of a frame ahead of its payload
	numberSize = 8  // bytes of the first record's number
	headSize   = frameHead + numberSize

	namePrefix = "seg-"
	nameDigits = 10
	lastNumber = 9999999999 // the greatest that a name has room for

	maxFirst = 1 << 62 // what the first file's head may say: numbers that go on from there never wrap round
)

// segment is a file of the journal.
type segment struct {
	number, first uint64
	bounds        []int // where each record's frame begins; the last one: where the file ends
}

func (s *segment) name() string { return fileName(s.number) }

func (s *segment) count() int { return len(s.bounds) - 1 }

func (s *segment) size() int { return s.bounds[s.count()] }

// next is the number behind its last record's.
func (s *segment) next() uint64 { return s.first + uint64(s.count()) }

// isBelow: of a file without records all are, whatever its head says.
func (s *segment) isBelow(number uint64) bool { return s.count() == 0 || s.next() <= number }

// payload tells where a record of this file has its payload, and how long that is.
func (s *segment) payload(number uint64) (at, length int) {
	i := number - s.first
	at = s.bounds[i] + frameHead
	return at, s.bounds[i+1] - at
}

func (s *segment) head() []byte {
	var first [numberSize]byte
	for i := range first {
		first[i] = byte(s.first >> (8 * (numberSize - 1 - i)))
	}
	b, _ := frame.Make(headKind, s.number, first[:]) // no kind and no length that Make refuses
	return b
}

// along goes along the frames of a file's bytes, and takes its head and where its records lie; it ends behind the last one, or where one begins that is not as it must be. begins says which first record the head may name.
func (s *segment) along(b []byte, pieces []api.Piece, begins func(uint64) bool) (int, bool) {
	place := 0
	if len(pieces) == 0 {
		return place, true
	}
	p := pieces[0]
	if p.Kind != headKind || p.Seq != s.number || p.Length != numberSize {
		return place, false
	}
	s.first = readNumber(b[p.At : p.At+numberSize])
	if !begins(s.first) {
		return place, false
	}
taken:
	place = p.At + p.Length
	s.bounds = append(s.bounds, place)
	pieces = pieces[1:]
	if len(pieces) == 0 {
		return place, true
	}
	p = pieces[0]
	if p.Kind == recordKind && p.Seq == s.next() {
		goto taken
	}
	return place, false
}

func readNumber(b []byte) uint64 {
	v := uint64(0)
	for _, c := range b {
		v = v<<8 | uint64(c)
	}
	return v
}

func fileName(number uint64) string {
	digits := strconv.FormatUint(number, 10)
	return namePrefix + strings.Repeat("0", nameDigits-len(digits)) + digits
}

// fileNumber: names of any other form are no business of a journal.
func fileNumber(name string) (uint64, bool) {
	digits, found := strings.CutPrefix(name, namePrefix)
	if !found || len(digits) != nameDigits {
		return 0, false
	}
	number := uint64(0)
	for i := range len(digits) {
		c := digits[i]
		if c < '0' || c > '9' {
			return 0, false
		}
		number = number*10 + uint64(c-'0')
	}
	return number, true
}
