package match_test

import (
	"fmt"
	"math"
	"testing"

	"spoor/api"
	"spoor/forest"
)

// leaves: does a stage leave everything, or nothing?
func leaves(t *testing.T, f *forest.Forest, stage string, everything bool) {
	t.Helper()
	var want []uint64
	if everything {
		for _, id := range f.IDs() {
			want = append(want, uint64(id))
		}
	}
	finds(t, f, "{} | "+stage, want...)
}

// around: does a stage tell this number from the others, by each operator?
func around(t *testing.T, f *forest.Forest, stage string, n int64) {
	t.Helper()
	for _, m := range []int64{n - 2, n - 1, n, n + 1, n + 2, -n, -1, 0, math.MinInt64, math.MaxInt64} {
		for sign, when := range ops() {
			order := 1
			if n < m {
				order = 0
			} else if n > m {
				order = 2
			}
			leaves(t, f, fmt.Sprint(stage, " ", sign, " ", m), when[order])
		}
	}
}

func TestCount(t *testing.T) {
	f := example(t)
	around(t, f, "count", 5)
	finds(t, f, `{service = "db"} | count = 3`, 2, 3, 9)
	finds(t, f, `{service = "db"} | count = 2`)
	finds(t, f, `{service = "none"} | count = 0`)
	finds(t, f, `{service = "none"} | count != 7`)
	finds(t, f, `{} | count >= 0`, 1, 2, 3, 4, 9)
}

// The greatest, the least, the sum, of each field. (dur: 10 4 5 1 1; self: 3 2 5 0 1; of total see the other trace.)
func TestGreatestLeastAndSum(t *testing.T) {
	f := example(t)
	around(t, f, "max dur", 10)
	around(t, f, "min dur", 1)
	around(t, f, "sum dur", 21)
	around(t, f, "max self", 5)
	around(t, f, "min self", 0)
	around(t, f, "sum self", 11)
	f = built(t, rich()...)
	around(t, f, "max total", 40)
	around(t, f, "min total", 0)
	around(t, f, "sum total", 100)
	around(t, f, "sum dur", 164)
	around(t, f, "sum self", 46)
	finds(t, f, `{root = true} | sum dur = 46`, 1, 20, 30)
	finds(t, f, `{root = true} | min dur = 1`, 1, 20, 30)
	finds(t, f, `{root = true} | max dur > 40`)
}

// Of nothing they leave nothing, whatever they are held against.
func TestStagesOfNothing(t *testing.T) {
	f := example(t)
	for _, name := range []string{"max", "min", "sum"} {
		for _, field := range []string{"dur", "self", "total"} {
			for sign := range ops() {
				for _, n := range []int64{math.MinInt64, -1, 0, 1, math.MaxInt64} {
					finds(t, f, fmt.Sprintf(`{service = "none"} | %s %s %s %d`, name, field, sign, n))
				}
			}
		}
	}
	for _, field := range []string{"dur", "self", "total", "start"} {
		finds(t, f, `{service = "none"} | top 5 by `+field)
	}
}

// lengths has roots of these lengths.
func lengths(t *testing.T, l ...int64) *forest.Forest {
	var spans []api.Span
	for i, n := range l {
		spans = append(spans, one(api.SpanID(i+1), 0, "a", 0, n))
	}
	return built(t, spans...)
}

// A sum is a whole number: it does not go round at 2^63, nor at 2^64, nor further on.
func TestGreatSums(t *testing.T) {
	const most = int64(api.MaxTime)
	for _, field := range []string{"dur", "self", "total"} {
		stage := "sum " + field
		around(t, lengths(t, most), stage, most)
		f := lengths(t, most, most-1) // 2^63 - 1
		for sign, when := range ops() {
			leaves(t, f, stage+" "+sign+" 9223372036854775807", when[1])
			leaves(t, f, stage+" "+sign+" 9223372036854775806", when[2])
		}
		for _, n := range []int{2, 3, 4, 5, 8, 16, 999, 1000} { // 2^63, and more: 4 and 1000 make 0 of 64 bits
			var l []int64
			for range n {
				l = append(l, most)
			}
			f = lengths(t, l...)
			for sign, when := range ops() {
				for _, limit := range []string{"9223372036854775807", "4611686018427387904", "1", "0", "-1", "-9223372036854775808"} {
					leaves(t, f, stage+" "+sign+" "+limit, when[2])
				}
			}
		}
		f = lengths(t, 0, most, 1, most, most, 5, most, most-7)
		leaves(t, f, stage+" > 9223372036854775807", true)
		leaves(t, f, stage+" < 0", false)
	}
	around(t, lengths(t, most, most, most, 3), "max dur", most)
	around(t, lengths(t, most, most, most, 3), "min dur", 3)
}

// The greatest by each field; of several that have the same one those of the least IDs.
func TestTop(t *testing.T) {
	f := built(t, rich()...)
	// dur: 2: 100, 1: 40, 3: 10, 21: 8, 20: 5, 30: 1, 4: 0
	for n, want := range [][]uint64{{}, {2}, {1, 2}, {1, 2, 3}, {1, 2, 3, 21}, {1, 2, 3, 20, 21}, {1, 2, 3, 20, 21, 30}, {1, 2, 3, 4, 20, 21, 30}, {1, 2, 3, 4, 20, 21, 30}} {
		if n > 0 {
			finds(t, f, fmt.Sprintf(`{} | top %d by dur`, n), want...)
		}
	}
	// total: 1 and 2: 40, 3: 10, 20: 5, 21: 4, 30: 1, 4: 0
	finds(t, f, `{} | top 1 by total`, 1)
	finds(t, f, `{} | top 2 by total`, 1, 2)
	finds(t, f, `{} | top 5 by total`, 1, 2, 3, 20, 21)
	// self: 2: 30, 3: 10, 21: 4, 20 and 30: 1, 1 and 4: 0
	finds(t, f, `{} | top 3 by self`, 2, 3, 21)
	finds(t, f, `{} | top 4 by self`, 2, 3, 20, 21)
	finds(t, f, `{} | top 5 by self`, 2, 3, 20, 21, 30)
	finds(t, f, `{} | top 6 by self`, 1, 2, 3, 20, 21, 30)
	// start: 21: 41, 20: 40, 4: 25, 3: 20, 1: 10, 30: 7, 2: 0
	finds(t, f, `{} | top 1 by start`, 21)
	finds(t, f, `{} | top 3 by start`, 4, 20, 21)
	finds(t, f, `{} | top 6 by start`, 1, 3, 4, 20, 21, 30)
	finds(t, f, `{root = true} | top 2 by start`, 1, 20)
	finds(t, f, `{} | top 1000 by start`, 1, 2, 3, 4, 20, 21, 30)
	same := lengths(t, 5, 5, 7, 5, 5)
	finds(t, same, `{} | top 1 by dur`, 3)
	finds(t, same, `{} | top 3 by dur`, 1, 2, 3)
	finds(t, same, `{} | top 2 by start`, 1, 2)
}

// Each stage gets what the one ahead has left.
func TestStagesInARow(t *testing.T) {
	f := example(t)
	finds(t, f, `{} | top 3 by dur | count = 3`, 1, 2, 3)
	finds(t, f, `{} | top 3 by dur | count = 5`)
	finds(t, f, `{} | count = 5 | top 3 by dur`, 1, 2, 3)
	finds(t, f, `{} | top 3 by dur | sum dur = 19`, 1, 2, 3)
	finds(t, f, `{} | top 3 by dur | min dur = 4 | max dur = 10`, 1, 2, 3)
	finds(t, f, `{} | top 3 by dur | top 1 by start`, 3)
	finds(t, f, `{} | top 1 by start | top 3 by dur`, 9)
	finds(t, f, `{} | top 3 by start | top 2 by dur`, 3, 4)
	finds(t, f, `{} | max dur > 10 | count = 0`)
	finds(t, f, `{} | count = 4 | count = 5`)
	finds(t, f, `{} | count < 0 | top 1 by dur`)
}
