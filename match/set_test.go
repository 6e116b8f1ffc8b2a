package match_test

import (
	"fmt"
	"math"
	"strings"
	"testing"

	"spoor/api"
	"spoor/match"
)

// Sets that have something, and sets that have nothing.
func TestBothAndEither(t *testing.T) {
	f := example(t)
	finds(t, f, `{}`, 1, 2, 3, 4, 9)
	finds(t, f, `{service = "web"} || {service = "disk"}`, 1, 4)
	finds(t, f, `{service = "web"} && {service = "disk"}`, 1, 4)
	finds(t, f, `{service = "web"} && {service = "web"}`, 1)
	finds(t, f, `{service = "web"} && {}`, 1, 2, 3, 4, 9)
	finds(t, f, `{service = "none"} || {service = "disk"}`, 4)
	finds(t, f, `{service = "web"} || {service = "none"}`, 1)
	finds(t, f, `{service = "none"} && {service = "disk"}`)
	finds(t, f, `{service = "none"} && {}`)
	finds(t, f, `{} && {service = "none"}`)
	finds(t, f, `{service = "none"} || {service = "none"}`)
	finds(t, f, `{service = "none"} && {service = "none"}`)
	finds(t, f, `{service = "web"} && {service = "none"} || {service = "disk"}`, 4)
	finds(t, f, `{service = "web"} && ({service = "none"} || {service = "disk"})`, 1, 4)
	finds(t, f, `({service = "disk"} > {}) && {service = "web"}`)
	finds(t, f, `({} > {service = "disk"}) && {service = "web"}`, 1, 4)
}

// grove is a trace with two trees: 1 has 2 and 3, 2 has 4 and 5, 4 has 6, 3 has 7; 10 has 11. Each is of a service of its own, named by its ID.
func grove() []api.Span {
	var l []api.Span
	for id, parent := range map[api.SpanID]api.SpanID{1: 0, 2: 1, 3: 1, 4: 2, 5: 2, 6: 4, 7: 3, 10: 99, 11: 10} {
		l = append(l, one(id, parent, fmt.Sprint("s", id), int64(20-id), 20))
	}
	return l
}

// named is a set of spans by their services.
func named(l ...int) string {
	s := "{}"
	for i, id := range l {
		if i == 0 {
			s = fmt.Sprintf(`{service = "s%d"}`, id)
			continue
		}
		s += fmt.Sprintf(` || {service = "s%d"}`, id)
	}
	return "(" + s + ")"
}

// Whose parent, and above which one is: of one tree alone, at any distance.
func TestChildAndBelow(t *testing.T) {
	f := built(t, grove()...)
	finds(t, f, `{} > {}`, 2, 3, 4, 5, 6, 7, 11)
	finds(t, f, `{} >> {}`, 2, 3, 4, 5, 6, 7, 11)
	finds(t, f, named(1)+` > {}`, 2, 3)
	finds(t, f, named(1)+` >> {}`, 2, 3, 4, 5, 6, 7)
	finds(t, f, named(2)+` > {}`, 4, 5)
	finds(t, f, named(2)+` >> {}`, 4, 5, 6)
	finds(t, f, named(6)+` >> {}`)
	finds(t, f, named(6)+` > {}`)
	finds(t, f, named(10)+` >> {}`, 11)
	finds(t, f, named(2, 7, 10)+` > `+named(2, 4, 6, 11), 4, 11)
	finds(t, f, named(2, 7, 10)+` >> `+named(2, 4, 6, 11), 4, 6, 11)
	finds(t, f, named(4)+` > `+named(4))  // nothing is its own parent
	finds(t, f, named(4)+` >> `+named(4)) // nor above itself
	finds(t, f, `{} >> `+named(1, 10))
	finds(t, f, named(4)+` > `+named(2)) // not the other way
	finds(t, f, named(4)+` >> `+named(1))
	finds(t, f, `{service = "none"} > {}`)
	finds(t, f, `{} >> {service = "none"}`)
	finds(t, f, `{} > {} > {}`, 4, 5, 6, 7)
	finds(t, f, `{} > {} > {} > {}`, 6)
	finds(t, f, `{} > {} > {} > {} > {}`)
	finds(t, f, named(1)+` > {} >> {}`, 4, 5, 6, 7)
	finds(t, f, named(1)+` >> ({} > `+named(6)+`)`, 6)
}

// Beside: another child of the same parent; roots have none, though there are several.
func TestBeside(t *testing.T) {
	f := built(t, grove()...)
	finds(t, f, `{} ~ {}`, 2, 3, 4, 5)
	finds(t, f, named(2)+` ~ {}`, 3)
	finds(t, f, named(2, 3)+` ~ {}`, 2, 3)
	finds(t, f, named(2)+` ~ `+named(2)) // not beside itself
	finds(t, f, named(2)+` ~ `+named(3), 3)
	finds(t, f, named(2, 3)+` ~ `+named(3), 3)
	finds(t, f, named(3)+` ~ `+named(3, 4, 5))
	finds(t, f, named(5)+` ~ {}`, 4)
	finds(t, f, named(6, 7, 11)+` ~ {}`) // alone beneath their parents
	finds(t, f, named(1)+` ~ `+named(10))
	finds(t, f, named(10)+` ~ {}`)
	finds(t, f, named(6)+` ~ `+named(7)) // of one depth, but of two parents
	finds(t, f, named(4)+` ~ {} ~ {}`, 4)
	finds(t, f, `{service = "none"} ~ {}`)

	three := built(t, one(1, 0, "s1", 0, 9), one(2, 1, "s2", 0, 9), one(3, 1, "s3", 0, 9), one(4, 1, "s4", 0, 9))
	finds(t, three, named(2)+` ~ {}`, 3, 4)
	finds(t, three, named(2, 3)+` ~ {}`, 2, 3, 4)
	finds(t, three, named(2, 3)+` ~ `+named(3, 4), 3, 4)
}

// In a ring the one of the least ID has no parent, though it names one.
func TestRelationsInRings(t *testing.T) {
	f := built(t, one(5, 6, "s5", 0, 1), one(6, 7, "s6", 0, 1), one(7, 5, "s7", 0, 1), one(8, 7, "s8", 0, 1), one(9, 6, "s9", 0, 1))
	finds(t, f, `{} > {}`, 6, 7, 8, 9)
	finds(t, f, named(6)+` > {}`, 9)
	finds(t, f, named(6)+` >> {}`, 9)
	finds(t, f, named(7)+` >> {}`, 6, 8, 9)
	finds(t, f, named(5)+` >> {}`, 6, 7, 8, 9)
	finds(t, f, `{} ~ {}`, 6, 8)
	finds(t, f, named(9)+` ~ {}`) // 5 names the same parent, but is a root
}

// row has so many spans with the IDs from 1 on, each of which names the one ahead of it.
func row(n int) []api.Span {
	var l []api.Span
	for i := range n {
		l = append(l, one(api.SpanID(i+1), api.SpanID(i), "a", int64(i), int64(3*n-i)))
	}
	return l
}

func upTo(from, to uint64) []uint64 {
	var l []uint64
	for n := from; n <= to; n++ {
		l = append(l, n)
	}
	return l
}

// As many spans as a trace has, as deep as may be; then all but one beneath one.
func TestMostSpans(t *testing.T) {
	f := built(t, row(api.MaxTrace)...)
	finds(t, f, `{}`, upTo(1, 1000)...)
	finds(t, f, `{depth = 0} >> {}`, upTo(2, 1000)...)
	finds(t, f, `{depth = 997} >> {}`, 999, 1000)
	finds(t, f, `{depth >= 990} > {depth <= 991}`, 992)
	finds(t, f, `{} ~ {}`)
	finds(t, f, `{leaf = true}`, 1000)
	finds(t, f, `{self = 1002}`, 1000) // from 999 up to 2001
	finds(t, f, `{self = 2}`, upTo(1, 999)...)
	finds(t, f, `{} | count = 1000`, upTo(1, 1000)...)
	finds(t, f, `{} | top 1000 by dur`, upTo(1, 1000)...)
	finds(t, f, `{} | top 999 by dur`, upTo(1, 999)...)
	finds(t, f, `{} | top 3 by start`, 998, 999, 1000)
	chain := "{}" + strings.Repeat(" > {}", 300)
	finds(t, f, chain, upTo(301, 1000)...)

	l := row(api.MaxTrace)
	for i := range l[1:] {
		l[i+1].Parent = 1
	}
	f = built(t, l...)
	finds(t, f, `{} > {}`, upTo(2, 1000)...)
	finds(t, f, `{start = 1} ~ {}`, upTo(3, 1000)...)
	finds(t, f, `{} ~ {}`, upTo(2, 1000)...)
	finds(t, f, `{leaf = true}`, upTo(2, 1000)...)
}

// IDs are numbers of 64 bits without a sign: they rise so.
func TestGreatIDs(t *testing.T) {
	const most = math.MaxUint64
	f := built(t, one(most, 0, "a", 0, 9), one(1<<63, most, "a", 0, 9), one(1<<63-1, most, "a", 0, 9), one(1, 1<<63, "a", 0, 9))
	finds(t, f, `{}`, 1, 1<<63-1, 1<<63, most)
	finds(t, f, `{} > {}`, 1, 1<<63-1, 1<<63)
	finds(t, f, `{} ~ {}`, 1<<63-1, 1<<63)
	finds(t, f, `{} | top 2 by dur`, 1, 1<<63-1)
	finds(t, f, `{} | top 3 by dur`, 1, 1<<63-1, 1<<63)
	if is, e := match.Holds(is("root", api.OpEq, truth(1)), f, most); !is || e != api.OK {
		t.Error(is, e)
	}
}

// The trees that a query may be are longer than any text: with very many parts, too, a call ends.
func TestGreatQueries(t *testing.T) {
	f := built(t, row(100)...)
	for _, op := range []api.Op{api.OpBoth, api.OpEither, api.OpChild, api.OpBelow, api.OpBeside} {
		e, want := all(), upTo(1, 100)
		if op >= api.OpChild {
			want = nil // no span has so many above it
		}
		for range 30000 {
			e = two(op, e, all())
		}
		finding(t, f, of(e), "a long row", spanIDs(want))
		if n, e := match.Steps(of(e), f); n != 3000100 || e != api.OK {
			t.Error(n, e)
		}
	}
	last := is("depth", api.OpEq, number(99))
	for _, op := range []api.Op{api.OpAnd, api.OpOr} {
		c := last
		for range 30000 {
			c = two(op, c, last)
		}
		finding(t, f, of(spans(c)), "a long condition", ids(100))
	}
	q := of(all())
	for range 30000 {
		q.Stages = append(q.Stages, api.Stage{Name: "count", Op: api.OpGe, Int: 1}, api.Stage{Name: "max", Field: "dur", Op: api.OpGt})
	}
	finding(t, f, q, "many stages", spanIDs(upTo(1, 100)))
}

// A query's text of the most bytes, on the most spans.
func TestLongestText(t *testing.T) {
	l := row(api.MaxTrace)
	for i := range l {
		l[i].Op = strings.Repeat("a", 100)
	}
	f := built(t, l...)
	pattern := strings.Repeat("*a", 90) + "*b"
	s := `{op =~ "` + pattern + `"}`
	for len(s)+300 <= api.MaxQuery {
		s += ` || {op =~ "` + pattern + `"}`
	}
	finds(t, f, s)
	finds(t, f, strings.ReplaceAll(s, "*b", "*"), upTo(1, 1000)...)
	below := "{}" + strings.Repeat(" >> {self > 0}", 142)
	if len(below) > api.MaxQuery {
		t.Fatal(len(below))
	}
	finds(t, f, below, upTo(143, 1000)...)
}

// What is told is rising, whatever the order in which spans stand in their trees.
func TestRising(t *testing.T) {
	f := built(t, one(9, 0, "a", 0, 90), one(3, 9, "a", 50, 60), one(7, 9, "a", 10, 20), one(1, 7, "a", 15, 16), one(5, 3, "a", 50, 51))
	finds(t, f, `{}`, 1, 3, 5, 7, 9)
	finds(t, f, `{} > {}`, 1, 3, 5, 7)
	finds(t, f, `{} | top 4 by start`, 1, 3, 5, 7)
	finds(t, f, `{} | top 3 by start`, 1, 3, 5)
	finds(t, f, `{} | count > 0 | top 2 by dur`, 3, 9) // 7 is as long as 3
}
