package ival_test

import (
	"testing"

	"spoor/api"
	"spoor/ival"
)

const (
	least    int64 = -1 << 63
	greatest int64 = 1<<63 - 1
)

func one(from, to int64) api.Interval { return api.Interval{From: from, To: to} }

// list makes intervals of their ends, by twos.
func list(ends ...int64) []api.Interval {
	var l []api.Interval
	for i := 0; i < len(ends); i += 2 {
		l = append(l, one(ends[i], ends[i+1]))
	}
	return l
}

// I1, by the chapter's examples, and at each of its three rules' edges.
func TestClip(t *testing.T) {
	cases := []struct{ a, within, want api.Interval }{
		// the chapter's examples
		{one(3, 9), one(5, 7), one(5, 7)},
		{one(3, 6), one(5, 9), one(5, 6)},
		{one(1, 2), one(5, 9), one(5, 5)},
		{one(9, 12), one(5, 9), one(9, 9)},
		{one(7, 7), one(5, 9), one(7, 7)},
		{one(20, 3), one(5, 9), one(9, 9)},
		{one(3, 9), one(8, 2), one(8, 8)},
		// within, the same, around, over one end
		{one(6, 8), one(5, 9), one(6, 8)},
		{one(5, 9), one(5, 9), one(5, 9)},
		{one(4, 10), one(5, 9), one(5, 9)},
		{one(6, 20), one(5, 9), one(6, 9)},
		// outside, and touching
		{one(1, 5), one(5, 9), one(5, 5)},
		{one(10, 12), one(5, 9), one(9, 9)},
		// one moment at either end
		{one(4, 6), one(5, 9), one(5, 6)},
		{one(8, 10), one(5, 9), one(8, 9)},
		// an empty one: its From alone counts
		{one(2, 2), one(5, 9), one(5, 5)},
		{one(3, 2), one(5, 9), one(5, 5)},
		{one(8, 6), one(5, 9), one(8, 8)},
		{one(7, 3), one(5, 9), one(7, 7)},
		{one(9, 9), one(5, 9), one(9, 9)},
		{one(30, 30), one(5, 9), one(9, 9)},
		{one(greatest, least), one(5, 9), one(9, 9)},
		{one(least, least), one(5, 9), one(5, 5)},
		// within an empty one: its From alone counts, and nothing of a
		{one(3, 9), one(8, 8), one(8, 8)},
		{one(1, 2), one(8, 3), one(8, 8)},
		{one(9, 2), one(8, 3), one(8, 8)},
		{one(least, greatest), one(greatest, least), one(greatest, greatest)},
		{one(least, greatest), one(least, least), one(least, least)},
		// all numbers
		{one(least, greatest), one(-1, 1), one(-1, 1)},
		{one(-1, 1), one(least, greatest), one(-1, 1)},
		{one(least, greatest), one(least, greatest), one(least, greatest)},
		{one(greatest, greatest), one(least, greatest), one(greatest, greatest)},
		{one(least, least+1), one(least+1, greatest), one(least+1, least+1)},
		{one(greatest-1, greatest), one(least, greatest-1), one(greatest-1, greatest-1)},
		{api.Interval{}, api.Interval{}, api.Interval{}},
	}
	for _, c := range cases {
		if got := ival.Clip(c.a, c.within); got != c.want {
			t.Errorf("Clip of %v to %v is %v, not %v", c.a, c.within, got, c.want)
		}
	}
}

// I2, with the greatest length that there is.
func TestLength(t *testing.T) {
	cases := []struct {
		a    api.Interval
		want uint64
	}{
		{one(3, 9), 6},
		{one(9, 3), 0},
		{one(least, greatest), 1<<64 - 1},
		{one(4, 4), 0},
		{one(4, 5), 1},
		{one(5, 4), 0},
		{one(-3, 4), 7},
		{one(-9, -3), 6},
		{one(greatest, least), 0},
		{one(least, least), 0},
		{one(greatest, greatest), 0},
		{one(greatest-1, greatest), 1},
		{one(least, least+1), 1},
		{one(least, 0), 1 << 63},
		{one(least, 1), 1<<63 + 1},
		{one(0, greatest), 1<<63 - 1},
		{one(-1, greatest), 1 << 63},
		{one(least, greatest-1), 1<<64 - 2},
	}
	for _, c := range cases {
		if got := ival.Length(c.a); got != c.want {
			t.Errorf("Length of %v is %d, not %d", c.a, got, c.want)
		}
	}
}

// I3 and P6.2: overlapping, touching, within one another, empty, in any order.
func TestNormal(t *testing.T) {
	cases := []struct{ l, want []api.Interval }{
		{list(5, 7, 1, 3, 7, 9, 4, 4, 2, 2), list(1, 3, 5, 9)},
		{nil, nil},
		{[]api.Interval{}, nil},
		{list(3, 3), nil},
		{list(9, 3, 4, 4, greatest, least), nil},
		{list(3, 9), list(3, 9)},
		{list(1, 3, 3, 5), list(1, 5)},
		{list(3, 5, 1, 3), list(1, 5)},
		{list(1, 3, 4, 5), list(1, 3, 4, 5)},
		{list(4, 5, 1, 3), list(1, 3, 4, 5)},
		{list(1, 9, 2, 3, 8, 10, 10, 11), list(1, 11)},
		{list(1, 9, 2, 3, 4, 5), list(1, 9)},
		{list(1, 4, 1, 4, 1, 4), list(1, 4)},
		{list(1, 4, 1, 6), list(1, 6)},
		{list(1, 6, 4, 6), list(1, 6)},
		// an empty one joins nothing, and parts nothing
		{list(1, 3, 3, 3, 4, 6), list(1, 3, 4, 6)},
		{list(1, 6, 3, 3), list(1, 6)},
		{list(1, 6, 8, 2), list(1, 6)},
		{list(1, 3, 6, 3, 6, 8), list(1, 3, 6, 8)},
		// ahead of 0, and on either side
		{list(-5, -3, -3, 0), list(-5, 0)},
		{list(0, 2, -2, 0), list(-2, 2)},
		{list(-7, -5, 0, 1), list(-7, -5, 0, 1)},
		// all numbers
		{list(least, greatest), list(least, greatest)},
		{list(0, greatest, least, 0), list(least, greatest)},
		{list(greatest-1, greatest, least, least+1), list(least, least+1, greatest-1, greatest)},
		{list(least, 0, -5, greatest), list(least, greatest)},
		{list(least, least, greatest, greatest), nil},
	}
	for _, c := range cases {
		if got := ival.Normal(c.l); !same(got, c.want) {
			t.Errorf("Normal of %v is %v, not %v", c.l, got, c.want)
		}
	}
}

// I4: each moment is counted once.
func TestMeasure(t *testing.T) {
	cases := []struct {
		l    []api.Interval
		want uint64
	}{
		{list(1, 5, 3, 8, 1, 2), 7},
		{nil, 0},
		{list(9, 3, 4, 4), 0},
		{list(1, 5), 4},
		{list(1, 5, 1, 5), 4},
		{list(1, 5, 5, 6), 5},
		{list(6, 7, 1, 5), 5},
		{list(1, 9, 3, 4), 8},
		{list(1, 9, 7, 2), 8},
		{list(least, greatest), 1<<64 - 1},
		{list(least, 0, -5, greatest), 1<<64 - 1},
		{list(least, greatest, least, greatest), 1<<64 - 1},
		{list(least, -1, 0, greatest), 1<<64 - 2},
		{list(greatest, least), 0},
	}
	for _, c := range cases {
		if got := ival.Measure(c.l); got != c.want {
			t.Errorf("Measure of %v is %d, not %d", c.l, got, c.want)
		}
	}
}

// I5.
func TestMeet(t *testing.T) {
	cases := []struct{ a, b, want []api.Interval }{
		{list(1, 5, 8, 12), list(4, 9), list(4, 5, 8, 9)},
		{nil, nil, nil},
		{list(1, 2), nil, nil},
		{nil, list(1, 2), nil},
		{list(1, 5), list(5, 9), nil},
		{list(5, 9), list(1, 5), nil},
		{list(1, 5), list(6, 9), nil},
		{list(1, 5), list(1, 5), list(1, 5)},
		{list(1, 9), list(3, 4), list(3, 4)},
		{list(1, 5), list(4, 9), list(4, 5)},
		// two of one list do not meet one another
		{list(1, 5, 3, 8), nil, nil},
		{list(1, 5, 3, 8), list(9, 10), nil},
		{nil, list(1, 5, 3, 8), nil},
		// pieces that touch are one
		{list(1, 5, 5, 9), list(2, 4, 3, 8), list(2, 8)},
		{list(1, 5, 5, 9), list(1, 5, 5, 9), list(1, 9)},
		{list(1, 5, 5, 9), list(0, 20), list(1, 9)},
		// empty ones
		{list(1, 9), list(4, 4, 7, 3), nil},
		{list(9, 1), list(1, 9), nil},
		{list(1, 9, 4, 4), list(2, 3, 6, 5), list(2, 3)},
		// all numbers
		{list(least, greatest), list(least, greatest), list(least, greatest)},
		{list(least, greatest), list(greatest-1, greatest, least, least+1), list(least, least+1, greatest-1, greatest)},
		{list(least, 0), list(0, greatest), nil},
		{list(least, 1), list(0, greatest), list(0, 1)},
	}
	for _, c := range cases {
		if got := ival.Meet(c.a, c.b); !same(got, c.want) {
			t.Errorf("Meet of %v and %v is %v, not %v", c.a, c.b, got, c.want)
		}
	}
}

// I6.
func TestMinus(t *testing.T) {
	cases := []struct{ a, b, want []api.Interval }{
		{list(1, 12), list(3, 4, 6, 8, 8, 9), list(1, 3, 4, 6, 9, 12)},
		{nil, nil, nil},
		{nil, list(1, 9), nil},
		{list(1, 9), nil, list(1, 9)},
		{list(1, 5, 5, 9), nil, list(1, 9)},
		{list(1, 9), list(1, 9), nil},
		{list(1, 9), list(0, 20), nil},
		{list(1, 5, 3, 9), list(0, 20), nil},
		{list(1, 9), list(1, 3), list(3, 9)},
		{list(1, 9), list(7, 9), list(1, 7)},
		{list(1, 9), list(-5, 3), list(3, 9)},
		{list(1, 9), list(7, 15), list(1, 7)},
		{list(1, 9), list(9, 15, -3, 1), list(1, 9)},
		{list(1, 9), list(4, 5), list(1, 4, 5, 9)},
		{list(1, 9), list(4, 6, 3, 5), list(1, 3, 6, 9)},
		{list(1, 5, 8, 12), list(4, 9), list(1, 4, 9, 12)},
		// what a has twice is taken away once and for all
		{list(1, 9, 1, 9), list(4, 5), list(1, 4, 5, 9)},
		// an empty one takes nothing, and parts nothing
		{list(1, 9), list(4, 4), list(1, 9)},
		{list(1, 9), list(7, 3), list(1, 9)},
		{list(9, 1, 4, 4), list(2, 3), nil},
		// all numbers
		{list(least, greatest), list(0, 1), list(least, 0, 1, greatest)},
		{list(least, greatest), list(least, least+1), list(least+1, greatest)},
		{list(least, greatest), list(greatest-1, greatest), list(least, greatest-1)},
		{list(least, greatest), list(least, greatest), nil},
		{list(least, greatest), list(greatest, least), list(least, greatest)},
		{list(-1, 1), list(least, greatest), nil},
	}
	for _, c := range cases {
		if got := ival.Minus(c.a, c.b); !same(got, c.want) {
			t.Errorf("Minus of %v and %v is %v, not %v", c.a, c.b, got, c.want)
		}
	}
}

// I7: From is in it, To is not, and the greatest number is in none.
func TestHas(t *testing.T) {
	cases := []struct {
		l    []api.Interval
		at   int64
		want bool
	}{
		{list(1, 3), 1, true},
		{list(1, 3), 3, false},
		{list(1, 3), 2, true},
		{list(1, 3), 0, false},
		{list(1, 3), 4, false},
		{nil, 0, false},
		{list(0, 0), 0, false},
		{list(3, 1), 2, false},
		{list(3, 1), 1, false},
		{list(3, 1), 3, false},
		{list(5, 7, 1, 3), 2, true},
		{list(5, 7, 1, 3), 6, true},
		{list(5, 7, 1, 3), 4, false},
		{list(1, 3, 3, 5), 3, true},
		{list(3, 1, 0, 9), 2, true},
		{list(1, 9, 5, 4), 5, true},
		{list(least, greatest), least, true},
		{list(least, greatest), greatest, false},
		{list(least, greatest), greatest - 1, true},
		{list(least, greatest), 0, true},
		{list(least+1, greatest), least, false},
		{list(0, greatest), greatest, false},
		{list(greatest, greatest), greatest, false},
		{list(greatest, least), 0, false},
	}
	for _, c := range cases {
		if got := ival.Has(c.l, c.at); got != c.want {
			t.Errorf("Has of %v, at %d is %v, not %v", c.l, c.at, got, c.want)
		}
	}
}
