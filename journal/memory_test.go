package journal_test

import (
	"bytes"
	"slices"
	"testing"

	"spoor/api"
	"spoor/disk"
)

// scribble writes into bytes and into their spare room.
func scribble(b []byte) {
	b = b[:cap(b)]
	for i := range b {
		b[i] = '#'
	}
}

// What is handed to Append is neither written into nor kept, nor is what stands behind it.
func TestAppendKeepsNothing(t *testing.T) {
	d := disk.New()
	j := opened(t, d, 64, api.Recovery{Segments: 1})
	all := []byte("abcdefgh")
	for i := range uint64(3) {
		if n, e := j.Append(all[2:5]); n != i || e != api.OK {
			t.Fatal(n, e)
		}
		if string(all) != "abcdefgh" {
			t.Errorf("%q", all)
		}
	}
	scribble(all)
	tells(t, j, 0, "0 cde, 1 cde, 2 cde")
	if n, e := j.Append(nil); n != 3 || e != api.OK {
		t.Fatal(n, e)
	}
	reads(t, j, 3, "")
}

// What Read, Records and Segments tell is the caller's: what is written into it, and into its spare room, is seen nowhere else.
func TestAnswersAreNew(t *testing.T) {
	d := disk.New()
	j := opened(t, d, 90, api.Recovery{Segments: 1})
	for i, p := range []string{"abc", "de", "fgh"} {
		adds(t, j, p, uint64(i))
	}
	before := contents(d)
	one, _ := j.Read(0)
	other, _ := j.Read(0)
	next, _ := j.Read(1)
	scribble(one)
	if string(other) != "abc" || string(next) != "de" {
		t.Errorf("%q %q", other, next)
	}
	records := j.Records(0)
	for range 2 {
		var l [][]byte
		for _, b := range records {
			for _, c := range records {
				scribble(c)
			}
			l = append(l, b)
		}
		if !slices.EqualFunc(l, []string{"abc", "de", "fgh"}, func(b []byte, s string) bool { return string(b) == s }) {
			t.Errorf("%q", l)
		}
		for i, b := range l {
			scribble(b)
			for _, c := range l[i+1:] {
				if bytes.Contains(c, []byte("#")) {
					t.Errorf("%q shares memory with another one", c)
				}
			}
		}
	}
	files := j.Segments()
	files[0] = api.Segment{Number: 9, First: 9, Count: 9, Size: 9}
	_ = append(files[:1], files[:cap(files)]...)
	stands(t, j, 3, 2, api.Segment{Count: 2, Size: 85}, api.Segment{Number: 1, First: 2, Count: 1, Size: 59})
	if contents(d) != before {
		t.Error("the disk has something else")
	}
	tells(t, j, 0, "0 abc, 1 de, 2 fgh")
}

// An iterator's records stay as they were, though the disk's bytes are turned behind them.
func TestRecordsStay(t *testing.T) {
	d := disk.New()
	j := opened(t, d, 64, api.Recovery{Segments: 1})
	adds(t, j, "abc", 0)
	records := j.Records(0)
	d.Flip(name(0), 56, 1)
	for n, b := range records {
		if n != 0 || string(b) != "abc" {
			t.Error(n, b)
		}
	}
	reads(t, j, 0, "`bc")
}
