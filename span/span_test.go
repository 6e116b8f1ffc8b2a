package span_test

import (
	"cmp"
	"fmt"
	"math"
	"reflect"
	"slices"
	"testing"

	"spoor/api"
	"spoor/span"
)

// plainOne is the span S of the chapter's examples.
func plainOne() api.Span {
	return api.Span{Trace: api.TraceID{Lo: 7}, ID: 1, Service: "a", Op: "b", Start: 5, End: 9}
}

// richOne has something in every field.
func richOne() api.Span {
	return api.Span{
		Trace: api.TraceID{Hi: 0x0102030405060708, Lo: 0x1112131415161718}, ID: 0x2122232425262728, Parent: 0xf1f2f3f4f5f6f7f8,
		Links: []api.SpanID{2, 300, math.MaxUint64}, Service: "wäb", Op: "get / ß", Kind: api.Consumer, Status: api.Failed,
		Start: 300, End: api.MaxTime,
		Attrs: []api.Attr{
			{Key: "a", Value: api.Value{Kind: api.Text, Text: "€ \x00\x7f"}},
			{Key: "a.b_c-9", Value: api.Value{Kind: api.Int, Int: -3}},
			{Key: "b", Value: api.Value{Kind: api.Bool, Int: 1}},
		},
		Events: []api.Event{{At: 0, Name: "x"}, {At: 200, Name: "x"}, {At: 200, Name: "y z"}},
	}
}

// with is a span in which something is turned, all its lists its own.
func with(s api.Span, turn func(s *api.Span)) api.Span {
	turn(&s)
	return s
}

func answers(t *testing.T, what string, got, want api.Errno) {
	t.Helper()
	if got != want {
		t.Errorf("%s: %v, not %v", what, got, want)
	}
}

// rows are the fields in the order in which they decide, each with some spans that differ in it alone, from the least one to the greatest.
func rows() []struct {
	field string
	turns []func(s *api.Span)
} {
	type turn = func(s *api.Span)
	var ids, his, los, parents, links, ends, starts, statuses, kinds, services, ops, attrs, events []turn
	for _, v := range []uint64{0, 1, 2, 256, 1 << 63, math.MaxUint64} {
		his = append(his, func(s *api.Span) { s.Trace.Hi = v })
		los = append(los, func(s *api.Span) { s.Trace.Lo = v })
		ids = append(ids, func(s *api.Span) { s.ID = api.SpanID(v) })
		parents = append(parents, func(s *api.Span) { s.Parent = api.SpanID(v) })
	}
	for _, v := range []int64{math.MinInt64, -1, 0, 1, 2, 256, math.MaxInt64} {
		ends = append(ends, func(s *api.Span) { s.End = v })
		starts = append(starts, func(s *api.Span) { s.Start = v })
		statuses = append(statuses, func(s *api.Span) { s.Status = api.Status(v) })
		kinds = append(kinds, func(s *api.Span) { s.Kind = api.Kind(v) })
	}
	slices.Reverse(starts) // the one that began earlier is the greater one
	for _, v := range []string{"", "\x00", "A", "Z", "a", "a\x00", "aa", "ab", "b", "ä", "\xff", "\xff\xff"} {
		services = append(services, func(s *api.Span) { s.Service = v })
		ops = append(ops, func(s *api.Span) { s.Op = v })
	}
	for _, v := range [][]api.SpanID{{}, {0}, {0, 0}, {0, 1}, {1}, {1, 0}, {1, 1, 0}, {2}, {math.MaxUint64}} {
		links = append(links, func(s *api.Span) { s.Links = v })
	}
	for _, v := range attrLists() {
		attrs = append(attrs, func(s *api.Span) { s.Attrs = v })
	}
	for _, v := range eventLists() {
		events = append(events, func(s *api.Span) { s.Events = v })
	}
	return []struct {
		field string
		turns []func(s *api.Span)
	}{
		{"Trace.Hi", his}, {"Trace.Lo", los}, {"ID", ids}, {"End", ends}, {"Start", starts}, {"Status", statuses}, {"Parent", parents},
		{"Service", services}, {"Op", ops}, {"Kind", kinds}, {"Links", links}, {"Attrs", attrs}, {"Events", events},
	}
}

// attrLists rise: by Key, by Value.Kind, by Value.Text, by Value.Int, a beginning ahead of what goes on.
func attrLists() [][]api.Attr {
	one := func(key string, kind api.ValueKind, text string, n int64) []api.Attr {
		return []api.Attr{{Key: key, Value: api.Value{Kind: kind, Text: text, Int: n}}}
	}
	l := [][]api.Attr{
		{},
		one("", math.MaxInt, "z", 9),
		one("a", math.MinInt, "z", 9), one("a", -1, "z", 9), one("a", 0, "", math.MaxInt64), one("a", 0, "\x00", -1),
		one("a", 0, "a", math.MinInt64), one("a", 0, "a", -1), one("a", 0, "a", 0), one("a", 0, "a", math.MaxInt64), one("a", 0, "b", -9),
		one("a", 1, "", 0),
	}
	longer := append(one("a", 1, "", 0), one("", 0, "", 0)...)
	longest := append(slices.Clone(longer), one("", 0, "", 0)...)
	other := append(one("a", 1, "", 0), one("", 0, "", 1)...)
	return append(l, longer, longest, other, one("a", 1, "", 1), one("aa", 0, "", 0), one("b", 0, "", -1))
}

// eventLists rise: by At, then by Name.
func eventLists() [][]api.Event {
	return [][]api.Event{
		nil,
		{{At: math.MinInt64, Name: "z"}}, {{At: -1, Name: "z"}},
		{{At: 0, Name: ""}}, {{At: 0, Name: ""}, {At: -1, Name: "z"}}, {{At: 0, Name: ""}, {At: 5, Name: ""}}, {{At: 0, Name: ""}, {At: 5, Name: ""}, {}},
		{{At: 0, Name: "a"}}, {{At: 0, Name: "aa"}}, {{At: 0, Name: "b"}, {At: -5, Name: ""}},
		{{At: 1, Name: ""}}, {{At: math.MaxInt64, Name: ""}},
	}
}

// The chapter's fourth example.

func TestExampleCompare(t *testing.T) {
	s := plainOne()
	for _, x := range []struct {
		what string
		turn func(s *api.Span)
		want int
	}{
		{"End 10", func(s *api.Span) { s.End = 10 }, -1},
		{"Start 4", func(s *api.Span) { s.Start = 4 }, -1},
		{"Status 1 and End 8", func(s *api.Span) { s.Status, s.End = 1, 8 }, 1},
	} {
		o := with(s, x.turn)
		if got := span.Compare(s, o); got != x.want {
			t.Errorf("Compare of S and S with %s: %d, not %d", x.what, got, x.want)
		}
		if got := span.Compare(o, s); got != -x.want {
			t.Errorf("Compare of S with %s and S: %d, not %d", x.what, got, -x.want)
		}
	}
}

// Compare: which field decides, and how.

func TestCompareOfOneField(t *testing.T) {
	for _, from := range []api.Span{{}, plainOne(), richOne()} {
		for _, row := range rows() {
			for i, turnA := range row.turns {
				for j, turnB := range row.turns {
					a, b := with(from, turnA), with(from, turnB)
					if got, want := span.Compare(a, b), cmp.Compare(i, j); got != want || span.Equal(a, b) != (want == 0) {
						t.Errorf("%s, %d and %d: Compare %d, not %d; Equal %v", row.field, i, j, got, want, span.Equal(a, b))
					}
				}
			}
		}
	}
}

func TestCompareTakesTheFirstField(t *testing.T) {
	all := rows()
	for i, first := range all {
		for _, second := range all[i+1:] {
			least, greatest := first.turns[0], first.turns[len(first.turns)-1]
			low, high := second.turns[0], second.turns[len(second.turns)-1]
			a := with(with(plainOne(), least), high)
			b := with(with(plainOne(), greatest), low)
			if span.Compare(a, b) != -1 || span.Compare(b, a) != 1 || span.Equal(a, b) {
				t.Errorf("%s stands ahead of %s: %d, %d", first.field, second.field, span.Compare(a, b), span.Compare(b, a))
			}
		}
	}
}

func TestNilAndEmptyAreTheSame(t *testing.T) {
	a, b := plainOne(), plainOne()
	b.Links, b.Attrs, b.Events = []api.SpanID{}, []api.Attr{}, make([]api.Event, 0, 5)
	if span.Compare(a, b) != 0 || span.Compare(b, a) != 0 || !span.Equal(a, b) || !span.Equal(b, a) {
		t.Errorf("Compare: %d, %d", span.Compare(a, b), span.Compare(b, a))
	}
	if !span.Equal(api.Span{}, api.Span{}) {
		t.Error("nothing and nothing differ")
	}
}

// P4.1: an order.

// crowd are spans of few values in every field, so that many are alike in most of them.
func crowd() []api.Span {
	seed := uint64(1)
	some := func(n int) int {
		seed = seed*6364136223846793005 + 1442695040888963407
		return int(seed>>33) % n
	}
	var l []api.Span
	for range 120 {
		s := api.Span{Trace: api.TraceID{Lo: 7}, ID: 1, Service: "a", Op: "b", Start: int64(some(2)), End: int64(5 + some(2))}
		for range some(3) {
			all := rows()
			turns := all[some(len(all))].turns
			turns[some(len(turns))](&s)
		}
		l = append(l, s)
	}
	return l
}

// sameFields asks the fields themselves, so that Compare need not be believed.
func sameFields(a, b api.Span) bool {
	lists := slices.Equal(a.Links, b.Links) && slices.Equal(a.Attrs, b.Attrs) && slices.Equal(a.Events, b.Events)
	a.Links, a.Attrs, a.Events = nil, nil, nil
	b.Links, b.Attrs, b.Events = nil, nil, nil
	return lists && reflect.DeepEqual(a, b)
}

func TestOrder(t *testing.T) {
	l := crowd()
	for _, a := range l {
		for _, b := range l {
			ab := span.Compare(a, b)
			if ab != -span.Compare(b, a) || ab < -1 || ab > 1 {
				t.Fatalf("Compare of %v and %v: %d, %d", a, b, ab, span.Compare(b, a))
			}
			if (ab == 0) != sameFields(a, b) || span.Equal(a, b) != (ab == 0) {
				t.Fatalf("Compare of %v and %v: %d, the same: %v, Equal %v", a, b, ab, sameFields(a, b), span.Equal(a, b))
			}
			for _, c := range l {
				if ab <= 0 && span.Compare(b, c) <= 0 && span.Compare(a, c) > 0 {
					t.Fatalf("%v, %v, %v do not stand in an order", a, b, c)
				}
			}
		}
	}
}

// Join.

// tellings are spans that may be, of one name.
func tellings() []api.Span {
	return []api.Span{
		plainOne(),
		with(plainOne(), func(s *api.Span) { s.End = 10 }),
		with(plainOne(), func(s *api.Span) { s.Start, s.End = 4, 10 }),
		with(plainOne(), func(s *api.Span) { s.Start = 4 }),
		with(plainOne(), func(s *api.Span) { s.Status = 2 }),
		with(plainOne(), func(s *api.Span) { s.Parent = 1 }),
		with(plainOne(), func(s *api.Span) { s.Links = []api.SpanID{2, 3} }),
		with(plainOne(), func(s *api.Span) { s.Links = []api.SpanID{2} }),
		with(plainOne(), func(s *api.Span) { s.Attrs = []api.Attr{{Key: "k"}} }),
		with(plainOne(), func(s *api.Span) { s.Attrs = []api.Attr{{Key: "k", Value: api.Value{Text: "v"}}} }),
		with(plainOne(), func(s *api.Span) { s.Events = []api.Event{{At: 1, Name: "e"}} }),
		with(plainOne(), func(s *api.Span) { s.Events = []api.Event{} }),
	}
}

func joined(t *testing.T, a, b api.Span) api.Span {
	t.Helper()
	s, e := span.Join(a, b)
	if e != api.OK {
		t.Fatalf("Join of %v and %v: %v", a, b, e)
	}
	return s
}

// P4.2: the one that counts.
func TestJoin(t *testing.T) {
	for _, a := range tellings() {
		if got := joined(t, a, a); !sameFields(got, a) {
			t.Errorf("Join of %v and itself: %v", a, got)
		}
		for _, b := range tellings() {
			greater := a
			if span.Compare(a, b) < 0 {
				greater = b
			}
			if got := joined(t, a, b); !sameFields(got, greater) || !sameFields(joined(t, b, a), got) {
				t.Errorf("Join of %v and %v: %v, the other way round %v", a, b, got, joined(t, b, a))
			}
			for _, c := range tellings() {
				left, right := joined(t, joined(t, a, b), c), joined(t, a, joined(t, b, c))
				if !sameFields(left, right) {
					t.Errorf("Join of %v, %v, %v: %v, %v", a, b, c, left, right)
				}
			}
		}
	}
}

func TestJoinRefuses(t *testing.T) {
	s := plainOne()
	late := func(s *api.Span) { s.End = 4 }
	kind := func(s *api.Span) { s.Kind = 5 }
	for _, x := range []struct {
		what string
		a, b api.Span
		want api.Errno
	}{
		{"another ID", s, with(s, func(s *api.Span) { s.ID = 2 }), api.ErrArg},
		{"another Hi", s, with(s, func(s *api.Span) { s.Trace.Hi = 1 }), api.ErrArg},
		{"another Lo", s, with(s, func(s *api.Span) { s.Trace.Lo = 8 }), api.ErrArg},
		{"Hi and Lo the other way round", with(s, func(s *api.Span) { s.Trace = api.TraceID{Hi: 7} }), s, api.ErrArg},
		{"another name, and neither may be", with(s, late), with(with(s, kind), func(s *api.Span) { s.ID = 0 }), api.ErrArg},
		{"neither may be: that of a", with(s, kind), with(s, late), api.ErrSpanKind},
		{"neither may be: that of a, the other way round", with(s, late), with(s, kind), api.ErrSpanTime},
		{"a may not be", with(s, late), s, api.ErrSpanTime},
		{"b may not be", s, with(s, kind), api.ErrSpanKind},
		{"nothing and nothing", api.Span{}, api.Span{}, api.ErrSpanID},
	} {
		got, e := span.Join(x.a, x.b)
		answers(t, x.what, e, x.want)
		if !reflect.DeepEqual(got, api.Span{}) {
			t.Errorf("%s: beside the error %v", x.what, got)
		}
	}
}

// Clone, and memory (P3, P4.4).

// roomy gives each list of a span spare room that is told apart from all else.
func roomy(s api.Span) api.Span {
	s.Links = append(append(make([]api.SpanID, 0, 9), s.Links...), 77)[:len(s.Links)]
	s.Attrs = append(append(make([]api.Attr, 0, 9), s.Attrs...), api.Attr{Key: "spare"})[:len(s.Attrs)]
	s.Events = append(append(make([]api.Event, 0, 9), s.Events...), api.Event{Name: "spare"})[:len(s.Events)]
	return s
}

// whole tells a span with what stands in its lists' spare room.
func whole(s api.Span) string {
	return fmt.Sprint(s, s.Links[:cap(s.Links)], s.Attrs[:cap(s.Attrs)], s.Events[:cap(s.Events)])
}

// scribble writes over a span's lists and their spare room.
func scribble(s api.Span) {
	for i := range s.Links[:cap(s.Links)] {
		s.Links[:cap(s.Links)][i] = 99
	}
	for i := range s.Attrs[:cap(s.Attrs)] {
		s.Attrs[:cap(s.Attrs)][i] = api.Attr{Key: "scribble"}
	}
	for i := range s.Events[:cap(s.Events)] {
		s.Events[:cap(s.Events)][i] = api.Event{Name: "scribble"}
	}
}

func TestClone(t *testing.T) {
	for _, s := range append(crowd(), api.Span{}, plainOne(), richOne(), roomy(plainOne()), roomy(richOne())) {
		before := whole(s)
		c := span.Clone(s)
		if !sameFields(c, s) || !span.Equal(c, s) || !span.Equal(s, c) || span.Check(c) != span.Check(s) {
			t.Errorf("Clone of %v: %v", s, c)
		}
		second := span.Clone(s)
		told := fmt.Sprint(second)
		scribble(c)
		if whole(s) != before {
			t.Errorf("what was written into a clone is seen: %v, not %v", whole(s), before)
		}
		scribble(s)
		if fmt.Sprint(second) != told {
			t.Errorf("a clone shares its lists: %v, not %v", second, told)
		}
	}
}

func TestJoinSharesNothing(t *testing.T) {
	for _, turn := range []func(a, b *api.Span){
		func(a, b *api.Span) {}, func(a, b *api.Span) { a.End-- }, func(a, b *api.Span) { b.End-- },
	} {
		a, b := roomy(richOne()), roomy(richOne())
		turn(&a, &b)
		beforeA, beforeB := whole(a), whole(b)
		first, second := joined(t, a, b), joined(t, a, b)
		scribble(first)
		if whole(a) != beforeA || whole(b) != beforeB || !sameFields(second, richOne()) {
			t.Errorf("what was written into a Join is seen: %v, %v, %v", a, b, second)
		}
		scribble(a)
		scribble(b)
		if !sameFields(second, richOne()) {
			t.Errorf("a Join shares its lists: %v", second)
		}
	}
}

func TestNothingIsWrittenInto(t *testing.T) {
	a, b := roomy(richOne()), roomy(plainOne())
	beforeA, beforeB := whole(a), whole(b)
	span.Check(a)
	span.Compare(a, b)
	span.Equal(a, a)
	span.Join(a, a)
	span.Clone(a)
	span.Encode(a)
	span.Encode(b)
	if whole(a) != beforeA || whole(b) != beforeB {
		t.Errorf("what was handed in is %v and %v now", a, b)
	}
}
