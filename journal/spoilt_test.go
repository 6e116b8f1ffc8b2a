package journal_test

import (
	"bytes"
	"fmt"
	"math/rand/v2"
	"slices"
	"testing"

	"spoor/api"
	"spoor/disk"
	"spoor/journal"
)

// laid is a file: its number, and its bytes.
type laid struct {
	number uint64
	bytes  []byte
}

func cat(parts ...[]byte) []byte { return bytes.Join(parts, nil) }

// turned is bytes of which the one at a place is another one.
func turned(b []byte, at int) []byte {
	b = bytes.Clone(b)
	b[at] ^= 4
	return b
}

// Each way in which files are no journal's, with its place; where several hold, the one that is named first, of the first file in which one holds.
func TestSpoilt(t *testing.T) {
	whole := segment(0, 0, "abc") // 59 bytes
	for _, c := range []struct {
		what  string
		files []laid
		in    uint64
		at    int
	}{
		{"a gap", []laid{{0, whole}, {2, segment(2, 1)}}, 2, 0},
		{"a gap, and a last file without a frame", []laid{{0, whole}, {2, headed(2, 1)[:9]}}, 2, 0},
		{"a gap ahead of a spoilt end", []laid{{0, whole}, {2, cat(segment(2, 1, "x"), []byte("yyyyyyyyyyyyyyyyyyyyyyyy"))}}, 2, 0},
		{"a spoilt file ahead of a gap", []laid{{0, turned(whole, 57)}, {2, segment(2, 1)}}, 0, 32},
		{"a gap behind two", []laid{{3, segment(3, 7)}, {4, segment(4, 7, "a")}, {6, segment(6, 8)}}, 6, 0},

		{"a torn end that is not the last file's", []laid{{0, whole[:58]}, {1, segment(1, 0)}}, 0, 32},
		{"a torn head that is not the last file's", []laid{{0, whole[:31]}, {1, segment(1, 0)}}, 0, 0},
		{"a byte too many ahead of the last file", []laid{{0, cat(whole, []byte("S"))}, {1, segment(1, 1)}}, 0, 59},
		{"another payload ahead of the last file", []laid{{0, turned(whole, 58)}, {1, segment(1, 1)}}, 0, 32},
		{"another head ahead of the last file", []laid{{0, turned(whole, 0)}, {1, segment(1, 1)}}, 0, 0},
		{"a spoilt end, ahead of a wrong first frame", []laid{{0, cat(framed(2, 0, "x"), whole[:58])}, {1, segment(1, 1)}}, 0, 57},
		{"a torn end, ahead of a wrong record", []laid{{0, cat(headed(0, 0), framed(2, 4, ""), []byte("SPR"))}, {1, segment(1, 1)}}, 0, 56},

		{"no frame ahead of the last file", []laid{{0, nil}, {1, segment(1, 0)}}, 0, 0},
		{"no frame in a file in the midst", []laid{{0, whole}, {1, nil}, {2, segment(2, 1)}}, 1, 0},

		{"a first frame of kind 2", []laid{{0, framed(2, 0, "abcdefgh")}}, 0, 0},
		{"a first frame of kind 9", []laid{{0, framed(9, 0, "\x00\x00\x00\x00\x00\x00\x00\x00")}}, 0, 0},
		{"a head of another number", []laid{{1, segment(0, 0, "abc")}}, 1, 0},
		{"a head of 7 bytes", []laid{{0, framed(1, 0, "\x00\x00\x00\x00\x00\x00\x00")}}, 0, 0},
		{"a head of 9 bytes", []laid{{0, framed(1, 0, "\x00\x00\x00\x00\x00\x00\x00\x00\x00")}}, 0, 0},
		{"a head without bytes", []laid{{0, framed(1, 0, "")}}, 0, 0},
		{"a first record above 2^62", []laid{{0, segment(0, 1<<62+1, "a")}}, 0, 0},
		{"a first record of all bits", []laid{{0, segment(0, 1<<64-1, "a")}}, 0, 0},
		{"a first record behind Next", []laid{{0, whole}, {1, segment(1, 2)}}, 1, 0},
		{"a first record ahead of Next", []laid{{0, whole}, {1, segment(1, 0, "abc")}}, 1, 0},
		{"a first record of all bits behind others", []laid{{0, whole}, {1, segment(1, 1<<64-1)}}, 1, 0},
		{"a wrong head, ahead of a wrong record", []laid{{0, cat(headed(1, 0), framed(2, 9, ""))}}, 0, 0},
		{"a wrong head, ahead of a spoilt end", []laid{{0, cat(headed(1, 0), turned(framed(2, 0, "abc"), 3))}}, 0, 0},
		{"a wrong head, ahead of a torn end", []laid{{0, cat(headed(1, 0), framed(2, 0, "abc")[:9])}}, 0, 0},

		{"two heads", []laid{{0, cat(headed(0, 0), headed(0, 0))}}, 0, 32},
		{"a record of kind 1", []laid{{0, cat(headed(0, 0), framed(1, 0, "abc"))}}, 0, 32},
		{"a record of kind 3", []laid{{0, cat(whole, framed(3, 1, "abc"))}}, 0, 59},
		{"a record that is there already", []laid{{0, cat(whole, framed(2, 0, "abc"))}}, 0, 59},
		{"a record that is left out", []laid{{0, cat(whole, framed(2, 2, "abc"))}}, 0, 59},
		{"a first record that is not the head's", []laid{{0, cat(headed(0, 7), framed(2, 0, "abc"))}}, 0, 32},
		{"a wrong record ahead of the last file", []laid{{0, cat(whole, framed(2, 2, "abc"))}, {1, segment(1, 2)}}, 0, 59},
		{"a wrong record, ahead of another one", []laid{{0, cat(headed(0, 0), framed(2, 1, ""), framed(3, 1, ""))}}, 0, 32},
		{"a wrong record, ahead of a spoilt end", []laid{{0, cat(whole, framed(2, 2, ""), turned(framed(2, 3, ""), 5))}}, 0, 59},
		{"a wrong record, ahead of a torn end", []laid{{0, cat(whole, framed(2, 2, ""), framed(2, 3, "")[:23])}}, 0, 59},

		{"a spoilt end", []laid{{0, cat(whole, turned(framed(2, 1, "abc"), 26))}}, 0, 59},
		{"a spoilt head of a record", []laid{{0, cat(whole, turned(framed(2, 1, "abc"), 15))}}, 0, 59},
		{"a spoilt end in a last file behind others", []laid{{0, whole}, {1, turned(segment(1, 1, "d"), 56)}}, 1, 32},
		{"24 bytes that are no head", []laid{{0, cat(whole, make([]byte, 24))}}, 0, 59},
		{"a spoilt head alone", []laid{{0, turned(headed(0, 0), 31)}}, 0, 0},
		{"a spoilt head alone, of which not all is there", []laid{{0, turned(headed(0, 0), 23)[:24]}}, 0, 0},

		{"another beginning than the head's", []laid{{0, []byte("SPR\x02")}}, 0, 0},
		{"23 noughts", []laid{{0, make([]byte, 23)}}, 0, 0},
		{"a beginning of another file's head", []laid{{0, headed(1, 0)[:31]}}, 0, 0},
		{"a beginning of a head of another record", []laid{{0, headed(0, 1)[:20]}}, 0, 0},
		{"a torn head whose payload is another one", []laid{{0, turned(headed(0, 0)[:31], 30)}}, 0, 0},
		{"a beginning of a head of record 0 behind others", []laid{{0, whole}, {1, headed(1, 0)[:20]}}, 1, 0},
		{"a torn frame that is no head", []laid{{0, framed(2, 0, "abcdefghijklmnopq")[:40]}}, 0, 0},
		{"a torn head of more than 8 bytes", []laid{{0, framed(1, 0, "\x00\x00\x00\x00\x00\x00\x00\x00\x00\x00")[:33]}}, 0, 0},
		{"an only file that is not 0, without bytes", []laid{{1, nil}}, 1, 0},
		{"an only file that is not 0, with a beginning of its head", []laid{{1, headed(1, 0)[:20]}}, 1, 0},
		{"an only file of the last number without a frame", []laid{{9999999999, headed(9999999999, 0)[:20]}}, 9999999999, 0},
	} {
		d := disk.New()
		for _, f := range c.files {
			lay(t, d, name(f.number), f.bytes)
		}
		d.Arm(1, api.Fail, 0)
		before := contents(d)
		e := d.Copy()
		refuses(t, c.what, d, 64, api.FileFault{Name: name(c.in), At: c.at, Err: api.ErrJournalSpoilt})
		if contents(d) != before || d.SyncNames() != api.ErrDiskFail {
			t.Errorf("%s: something was changed", c.what)
		}
		opens(t, c.what, e, e.Copy(), 64)
	}
}

// What is a journal's, though it looks as if it were not.
func TestNotSpoilt(t *testing.T) {
	whole := segment(0, 0, "abc")
	for _, c := range []struct {
		what  string
		files []laid
		want  api.Recovery
		tells string
	}{
		{"a first file of any number", []laid{{77, segment(77, 5, "a")}}, api.Recovery{Segments: 1, First: 5, Next: 6}, "5 a"},
		{"a first file of the last number", []laid{{9999999999, segment(9999999999, 0)}}, api.Recovery{Segments: 1}, ""},
		{"a file 0 that does not begin with record 0", []laid{{0, segment(0, 5, "a")}}, api.Recovery{Segments: 1, First: 5, Next: 6}, "5 a"},
		{"a first record 2^62", []laid{{1, segment(1, 1<<62, "a", "b")}, {2, segment(2, 1<<62+2)}},
			api.Recovery{Segments: 2, First: 1 << 62, Next: 1<<62 + 2}, "4611686018427387904 a, 4611686018427387905 b"},
		{"files without records", []laid{{0, segment(0, 0)}, {1, segment(1, 0)}, {2, segment(2, 0)}}, api.Recovery{Segments: 3}, ""},
		{"an empty file 0 alone", []laid{{0, nil}}, api.Recovery{Segments: 1}, ""},
		{"31 bytes of the head of file 0 alone", []laid{{0, headed(0, 0)[:31]}}, api.Recovery{Segments: 1, Torn: 31}, ""},
		{"an empty file behind another", []laid{{0, whole}, {1, nil}}, api.Recovery{Segments: 1, Next: 1}, "0 abc"},
		{"a byte of a head behind two", []laid{{0, whole}, {1, segment(1, 1)}, {2, headed(2, 1)[:1]}}, api.Recovery{Segments: 2, Next: 1, Torn: 1}, "0 abc"},
		{"a torn head behind a file that is not 0", []laid{{6, segment(6, 3, "x")}, {7, headed(7, 4)[:24]}},
			api.Recovery{Segments: 1, First: 3, Next: 4, Torn: 24}, "3 x"},
		{"a torn end that is not the record's beginning", []laid{{0, cat(whole, []byte("whatever"))}}, api.Recovery{Segments: 1, Next: 1, Torn: 8}, "0 abc"},
		{"a torn end that has another record's head", []laid{{0, cat(whole, framed(7, 99, "abcdefgh")[:31])}}, api.Recovery{Segments: 1, Next: 1, Torn: 31}, "0 abc"},
		{"payloads that spell frames", []laid{{0, segment(0, 0, string(headed(1, 1)), string(framed(2, 5, "x")[:9]))}},
			api.Recovery{Segments: 1, Next: 2}, fmt.Sprint("0 ", string(headed(1, 1)), ", 1 ", string(framed(2, 5, "x")[:9]))},
	} {
		d := disk.New()
		for _, f := range c.files {
			lay(t, d, name(f.number), f.bytes)
		}
		j, p := opens(t, c.what, d.Copy(), d.Copy(), 64)
		p.holds(t, j)
		j = opened(t, d, 64, c.want)
		tells(t, j, 0, c.tells)
		adds(t, j, "more", c.want.Next)
	}
}

// Journals to which something befell are held against the plain look at them, and what one is left open is open anew.
func TestPlainOpen(t *testing.T) {
	refused := 0
	for seed := range uint64(6000) {
		r := rand.New(rand.NewPCG(81, seed))
		d := disk.New()
		if r.IntN(5) > 0 {
			lays(d, r)
		}
		for range 1 + r.IntN(2) {
			befall(d, r)
		}
		what := fmt.Sprint("files ", seed)
		j, p := opens(t, what, d, d.Copy(), 64)
		if j == nil {
			refused++
			continue
		}
		p.holds(t, j)
		q, want, f := plainOpen(d.Copy(), 64)
		if f != nil || want.Torn != 0 || !slices.EqualFunc(q.segments(), j.Segments(), func(a, b api.Segment) bool { return a == b }) {
			t.Fatal(what, "opened anew", want, f)
		}
	}
	if refused < 1000 || refused > 5000 {
		t.Error(refused, "of 6000 are spoilt")
	}
}

// befall does something to one of the files of a journal.
func befall(d *disk.Disk, r *rand.Rand) {
	names, _ := d.Names()
	if len(names) == 0 {
		put(d, uint64(r.IntN(2)), segment(0, uint64(r.IntN(2)), "a")[:r.IntN(58)])
		return
	}
	file := names[r.IntN(len(names))]
	if r.IntN(2) == 0 {
		file = names[len(names)-1]
	}
	size, _ := d.Size(file)
	switch r.IntN(7) {
	case 0:
		d.Flip(file, r.IntN(size+1), byte(1+r.IntN(255)))
	case 1:
		d.Cut(file, r.IntN(size+1))
	case 2:
		d.Remove(file)
	case 3:
		d.Rename(file, name(uint64(r.IntN(6))))
	case 4:
		d.Append(file, framed(1+r.IntN(3), uint64(r.IntN(8)), "12345678"[:r.IntN(9)]))
	case 5:
		d.Append(file, framed(2, uint64(r.IntN(8)), "xyz")[:r.IntN(28)])
	case 6:
		number, first := uint64(r.IntN(8)), uint64(r.IntN(8))
		put(d, number, segment(number, first)[:r.IntN(33)])
	}
}

// P8.5: some bits of one frame, all within 32 that stand one behind the other, are turned.
func TestTurnedBits(t *testing.T) {
	d := disk.New()
	j := opened(t, d, 120, api.Recovery{Segments: 1})
	for i, p := range []string{"a", "", "defghi", "jk", "", "", "lmnopqrstuvwxyz"} {
		adds(t, j, p, uint64(i))
	}
	for _, s := range j.Segments() {
		size, starts := starts(d, s)
		for i, from := range starts {
			to := size
			if i+1 < len(starts) {
				to = starts[i+1]
			}
			for bit := 8 * from; bit < 8*to; bit++ {
				turnsBits(t, d, s.Number, from, []int{bit})
			}
			r := rand.New(rand.NewPCG(85, uint64(from)))
			for range 200 {
				first := 8*from + r.IntN(8*(to-from))
				bits := []int{first}
				for b := first + 1; b < min(first+32, 8*to); b++ {
					if r.IntN(2) == 0 {
						bits = append(bits, b)
					}
				}
				turnsBits(t, d, s.Number, from, bits)
			}
		}
	}
}

// starts is where the frames of a file begin.
func starts(d *disk.Disk, s api.Segment) (size int, l []int) {
	size, _ = d.Size(name(s.Number))
	b, _ := d.Read(name(s.Number), 0, size)
	for at := 0; at < size; {
		l = append(l, at)
		at += 24 + int(b[at+12])<<24 + int(b[at+13])<<16 + int(b[at+14])<<8 + int(b[at+15])
	}
	return size, l
}

func turnsBits(t *testing.T, d *disk.Disk, number uint64, from int, bits []int) {
	t.Helper()
	c := d.Copy()
	for _, b := range bits {
		if e := c.Flip(name(number), b/8, 1<<(b%8)); e != api.OK {
			t.Fatal(e)
		}
	}
	_, _, err := journal.Open(c, 64)
	f, is := err.(*api.FileFault)
	if !is || *f != (api.FileFault{Name: name(number), At: from, Err: api.ErrJournalSpoilt}) {
		t.Fatalf("%s with the bits %v turned: %v; not spoilt at %d", name(number), bits, err, from)
	}
}
