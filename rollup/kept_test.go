package rollup

import (
	"testing"

	"spoor/api"
)

// Windows and edges that have nothing any more are deleted, of all levels: none of them is kept.
func TestNothingIsKept(t *testing.T) {
	a, b := api.Edge{From: "a", To: "b"}, api.Edge{From: "b", To: "a"}
	one := api.Tally{Calls: api.Nat{Lo: 1}}
	for fan := 2; fan <= api.MaxFan; fan++ {
		r, _ := New(fan)
		hours := []int64{0, 1, int64(fan), 1 << 20, allHours - 1}
		for _, h := range hours {
			r.Put(h, a, one)
			r.Put(h, b, one)
			r.Put(h, b, api.Tally{})
			r.Put(h+2, a, api.Tally{})
		}
		r.Range(0, allHours)
		for _, h := range hours {
			r.Take(h, b, one)
		}
		for k, l := range r.levels {
			for n, w := range l.windows {
				if len(w) != 1 || w[a] == nil {
					t.Errorf("fan %d, level %d: the window %d has %v", fan, k, n, w)
				}
			}
		}
		for _, h := range hours {
			r.Take(h, a, one)
		}
		for k, l := range r.levels {
			if len(l.windows) > 0 {
				t.Errorf("fan %d, level %d: %v", fan, k, l.windows)
			}
		}
	}
}
