package match_test

import (
	"math"
	"slices"
	"strings"
	"testing"

	"spoor/api"
)

// ops has the six: of each whether it is so of a lesser, the same, a greater one.
func ops() map[string][3]bool {
	return map[string][3]bool{"=": {false, true, false}, "!=": {true, false, true}, "<": {true, false, false}, "<=": {true, true, false}, ">": {false, false, true}, ">=": {false, true, true}}
}

// rich is a trace in which each field tells spans apart: 1 is born, with 2 and 3 beneath it, 4 beneath 3; 20 and 21 are a ring; 30 has lost its parent.
func rich() []api.Span {
	events := []api.Event{{At: 1, Name: "a"}, {At: 2, Name: "a"}, {At: 3, Name: "a"}}
	l := []api.Span{
		{ID: 1, Service: "a", Op: "x", Kind: api.Server, Status: api.Fine, Start: 10, End: 50, Events: events[:1], Links: ids(2, 9)},
		{ID: 2, Parent: 1, Service: "ab", Op: "x y", Kind: api.Client, Status: api.Failed, Start: 0, End: 100, Events: events},
		{ID: 3, Parent: 1, Service: "b", Op: "a", Kind: api.Producer, Start: 20, End: 30, Links: ids(1)},
		{ID: 4, Parent: 3, Service: "é", Op: "é", Kind: api.Consumer, Start: 25, End: 25, Events: events[:2]},
		{ID: 20, Parent: 21, Service: "a", Op: "z", Start: 40, End: 45, Links: ids(1, 2, 3)},
		{ID: 21, Parent: 20, Service: "Z", Op: "z", Start: 41, End: 49},
		{ID: 30, Parent: 99, Service: "a*", Op: "?", Start: 7, End: 8},
	}
	for i := range l {
		l[i].Trace = api.TraceID{Hi: 1}
	}
	return l
}

// Each number that a span has, against numbers around it, by each operator.
func TestNumbers(t *testing.T) {
	f := built(t, rich()...)
	for field, has := range map[string]map[uint64]int64{
		"dur":    {1: 40, 2: 100, 3: 10, 4: 0, 20: 5, 21: 8, 30: 1},
		"total":  {1: 40, 2: 40, 3: 10, 4: 0, 20: 5, 21: 4, 30: 1},
		"self":   {1: 0, 2: 30, 3: 10, 4: 0, 20: 1, 21: 4, 30: 1},
		"start":  {1: 10, 2: 0, 3: 20, 4: 25, 20: 40, 21: 41, 30: 7},
		"depth":  {1: 0, 2: 1, 3: 1, 4: 2, 20: 0, 21: 1, 30: 0},
		"events": {1: 1, 2: 3, 3: 0, 4: 2, 20: 0, 21: 0, 30: 0},
		"links":  {1: 2, 2: 0, 3: 1, 4: 0, 20: 3, 21: 0, 30: 0},
	} {
		for _, n := range []int64{math.MinInt64, -1, 0, 1, 2, 3, 4, 5, 7, 8, 9, 10, 20, 25, 30, 39, 40, 41, 100, 101, math.MaxInt64} {
			for sign, when := range ops() {
				q := of(spans(is(field, read(t, "{} | count "+sign+" 1").Stages[0].Op, number(n))))
				var want []api.SpanID
				for _, id := range f.IDs() {
					order := 1
					if x := has[uint64(id)]; x < n {
						order = 0
					} else if x > n {
						order = 2
					}
					if when[order] {
						want = append(want, id)
					}
				}
				finding(t, f, q, field+" "+sign, want)
			}
		}
	}
}

// Texts are held against one another byte by byte: a beginning is the lesser one, great letters are ahead of small ones, and both of all runes of several bytes.
func TestTexts(t *testing.T) {
	f := built(t, rich()...)
	finds(t, f, `{service = "a"}`, 1, 20)
	finds(t, f, `{service != "a"}`, 2, 3, 4, 21, 30)
	finds(t, f, `{service < "a"}`, 21)
	finds(t, f, `{service <= "a"}`, 1, 20, 21)
	finds(t, f, `{service > "a"}`, 2, 3, 4, 30)
	finds(t, f, `{service >= "a"}`, 1, 2, 3, 4, 20, 30)
	finds(t, f, `{service < "ab"}`, 1, 20, 21, 30)
	finds(t, f, `{service > "ab"}`, 3, 4)
	finds(t, f, `{service > "z"}`, 4)
	finds(t, f, `{service = ""}`)
	finds(t, f, `{service > ""}`, 1, 2, 3, 4, 20, 21, 30)
	finds(t, f, `{op = "x"}`, 1)
	finds(t, f, `{op = "a"}`, 3)
	finds(t, f, `{op != "z"}`, 1, 2, 3, 4, 30)
	finds(t, f, `{op > "x"}`, 2, 4, 20, 21)
	finds(t, f, `{op >= "x" and op < "x z"}`, 1, 2)
	finds(t, f, `{op <= "A"}`, 30)
	finds(t, f, `{op = "X"}`)
}

// The Value is the pattern, what the span has the text: not the other way.
func TestLike(t *testing.T) {
	f := built(t, rich()...)
	finds(t, f, `{service =~ "a"}`, 1, 20)
	finds(t, f, `{service =~ "a*"}`, 1, 2, 20, 30)
	finds(t, f, `{service =~ "a\\*"}`, 30)
	finds(t, f, `{service =~ "?"}`, 1, 3, 4, 20, 21)
	finds(t, f, `{service =~ "*"}`, 1, 2, 3, 4, 20, 21, 30)
	finds(t, f, `{service =~ "ax"}`) // `a*` as a pattern would be like it
	finds(t, f, `{service =~ ""}`)
	finds(t, f, `{op =~ "y"}`) // so would `?`
	finds(t, f, `{op =~ "x*"}`, 1, 2)
	finds(t, f, `{op =~ "??y"}`, 2)
	finds(t, f, `{not op =~ "?"}`, 2)
}

// Kinds and statuses: each one that there is.
func TestKindsAndStatuses(t *testing.T) {
	f := built(t, rich()...)
	finds(t, f, `{kind = internal}`, 20, 21, 30)
	finds(t, f, `{kind = server}`, 1)
	finds(t, f, `{kind = client}`, 2)
	finds(t, f, `{kind = producer}`, 3)
	finds(t, f, `{kind = consumer}`, 4)
	finds(t, f, `{kind != internal}`, 1, 2, 3, 4)
	finds(t, f, `{kind != client}`, 1, 3, 4, 20, 21, 30)
	finds(t, f, `{status = unset}`, 3, 4, 20, 21, 30)
	finds(t, f, `{status = fine}`, 1)
	finds(t, f, `{status = failed}`, 2)
	finds(t, f, `{status != failed}`, 1, 3, 4, 20, 21, 30)
	finds(t, f, `{status != unset}`, 1, 2)
}

// Truths, by both operators and both values.
func TestTruths(t *testing.T) {
	f := built(t, rich()...)
	for field, has := range map[string][]uint64{"root": {1, 20, 30}, "born": {1}, "orphan": {30}, "looped": {20}, "leaf": {2, 4, 21, 30}} {
		var others []uint64
		for _, id := range f.IDs() {
			if !slices.Contains(has, uint64(id)) {
				others = append(others, uint64(id))
			}
		}
		finds(t, f, "{"+field+" = true}", has...)
		finds(t, f, "{"+field+" != false}", has...)
		finds(t, f, "{"+field+" = false}", others...)
		finds(t, f, "{"+field+" != true}", others...)
	}
}

// A span that names itself is a root, and no child of its own.
func TestRingOfOne(t *testing.T) {
	f := built(t, one(1, 1, "a", 0, 5), one(2, 2, "a", 1, 3), one(3, 2, "b", 0, 9))
	finds(t, f, `{looped = true}`, 1, 2)
	finds(t, f, `{root = true}`, 1, 2)
	finds(t, f, `{leaf = true}`, 1, 3)
	finds(t, f, `{} > {}`, 3)
	finds(t, f, `{} >> {}`, 3)
	finds(t, f, `{} ~ {}`)
	finds(t, f, `{depth = 0}`, 1, 2)
}

// bags has spans whose attributes are of all kinds, and one without any.
func bags() []api.Span {
	bag := func(id api.SpanID, attrs ...api.Attr) api.Span {
		return with(one(id, 0, "a", 0, 1), func(s *api.Span) { s.Attrs = attrs })
	}
	return []api.Span{
		bag(1),
		bag(2, api.Attr{Key: "k", Value: text("")}),
		bag(3, api.Attr{Key: "k", Value: text("5")}),
		bag(4, api.Attr{Key: "k", Value: number(0)}),
		bag(5, api.Attr{Key: "k", Value: number(5)}),
		bag(6, api.Attr{Key: "k", Value: truth(0)}),
		bag(7, api.Attr{Key: "k", Value: truth(1)}),
		bag(8, api.Attr{Key: "j", Value: number(5)}, api.Attr{Key: "k", Value: number(math.MinInt64)}, api.Attr{Key: "k.k", Value: text("x")}),
		bag(9, api.Attr{Key: "k-", Value: number(5)}, api.Attr{Key: "kk", Value: number(5)}),
		bag(10, api.Attr{Key: "k", Value: number(math.MaxInt64)}),
		bag(11, api.Attr{Key: "a.", Value: number(5)}, api.Attr{Key: "dur", Value: number(5)}, api.Attr{Key: "service", Value: text("z")}),
		bag(12, api.Attr{Key: strings.Repeat("k", 40), Value: text(strings.Repeat("v", 200))}),
	}
}

// Of a key: where the span has nothing, or a value of another kind, no operator is so.
func TestAttributes(t *testing.T) {
	f := built(t, bags()...)
	finds(t, f, `{.k = 5}`, 5)
	finds(t, f, `{.k != 5}`, 4, 8, 10)
	finds(t, f, `{.k < 5}`, 4, 8)
	finds(t, f, `{.k <= 5}`, 4, 5, 8)
	finds(t, f, `{.k > 5}`, 10)
	finds(t, f, `{.k >= 5}`, 5, 10)
	finds(t, f, `{.k >= -9223372036854775808}`, 4, 5, 8, 10)
	finds(t, f, `{.k < 9223372036854775807}`, 4, 5, 8)
	finds(t, f, `{.k = 5ns}`, 5)
	finds(t, f, `{.k = "5"}`, 3)
	finds(t, f, `{.k = ""}`, 2)
	finds(t, f, `{.k != ""}`, 3)
	finds(t, f, `{.k != "x"}`, 2, 3)
	finds(t, f, `{.k < "5"}`, 2)
	finds(t, f, `{.k <= "5"}`, 2, 3)
	finds(t, f, `{.k > ""}`, 3)
	finds(t, f, `{.k >= ""}`, 2, 3)
	finds(t, f, `{.k =~ "*"}`, 2, 3)
	finds(t, f, `{.k =~ ""}`, 2)
	finds(t, f, `{.k =~ "?"}`, 3)
	finds(t, f, `{.k = true}`, 7)
	finds(t, f, `{.k = false}`, 6)
	finds(t, f, `{.k != true}`, 6)
	finds(t, f, `{.k != false}`, 7)
	finds(t, f, `{not .k = 5}`, 1, 2, 3, 4, 6, 7, 8, 9, 10, 11, 12)
	finds(t, f, `{not .k != 5}`, 1, 2, 3, 5, 6, 7, 9, 11, 12)
	finds(t, f, `{not .k =~ "*"}`, 1, 4, 5, 6, 7, 8, 9, 10, 11, 12)
}

// Keys are told apart to the last byte, from one another and from fields.
func TestKeys(t *testing.T) {
	f := built(t, bags()...)
	finds(t, f, `{.j = 5}`, 8)
	finds(t, f, `{.kk = 5}`, 9)
	finds(t, f, `{.k- = 5}`, 9)
	finds(t, f, `{.k.k = "x"}`, 8)
	finds(t, f, `{.k.k != "y"}`, 8)
	finds(t, f, `{.k. = 5}`)
	finds(t, f, `{.a. = 5}`, 11)
	finds(t, f, `{.a = 5}`)
	finds(t, f, `{.none != 5}`)
	finds(t, f, `{.dur = 5}`, 11)
	finds(t, f, `{dur = 5}`)
	finds(t, f, `{.service = "z"}`, 11)
	finds(t, f, `{service = "z"}`)
	finds(t, f, `{.dur = 1}`)
	finds(t, f, `{.leaf = true}`)
	long := "." + strings.Repeat("k", 40)
	finds(t, f, `{`+long+` = "`+strings.Repeat("v", 200)+`"}`, 12)
	finds(t, f, `{`+long+` > "`+strings.Repeat("v", 199)+`"}`, 12)
	finds(t, f, `{`+long[:40]+` >= ""}`)
}

// Conditions of conditions.
func TestConditions(t *testing.T) {
	f := example(t)
	finds(t, f, `{service = "db" and dur > 1}`, 2, 3)
	finds(t, f, `{service = "db" and service = "web"}`)
	finds(t, f, `{service = "disk" or service = "web"}`, 1, 4)
	finds(t, f, `{service = "db" or dur > 4}`, 1, 2, 3, 9)
	finds(t, f, `{not service = "db"}`, 1, 4)
	finds(t, f, `{not not service = "db"}`, 2, 3, 9)
	finds(t, f, `{not (service = "db" and status = failed)}`, 1, 3, 4, 9)
	finds(t, f, `{not service = "db" or status = failed}`, 1, 2, 4)
	finds(t, f, `{root = true and leaf = true or depth = 1 and leaf = true}`, 3, 9)
	finds(t, f, `{(root = true or depth = 1) and leaf = true}`, 3, 9)
	finds(t, f, `{root = true or depth = 1 and leaf = true}`, 1, 3, 9)
}
