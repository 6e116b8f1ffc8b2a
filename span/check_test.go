package span_test

import (
	"fmt"
	"math"
	"strings"
	"testing"

	"spoor/api"
	"spoor/span"
)

// The chapter's examples.

func TestExampleCheck(t *testing.T) {
	attr := func(key string, v api.Value) func(s *api.Span) {
		return func(s *api.Span) { s.Attrs = append(s.Attrs, api.Attr{Key: key, Value: v}) }
	}
	for _, x := range []struct {
		what string
		turn func(s *api.Span)
		want api.Errno
	}{
		{"nothing else", func(s *api.Span) {}, api.OK},
		{"ID 0", func(s *api.Span) { s.ID = 0 }, api.ErrSpanID},
		{"End 4", func(s *api.Span) { s.End = 4 }, api.ErrSpanTime},
		{"Service a b", func(s *api.Span) { s.Service = "a b" }, api.ErrSpanName},
		{"Op a b", func(s *api.Span) { s.Op = "a b" }, api.OK},
		{"Links 3, 2", func(s *api.Span) { s.Links = []api.SpanID{3, 2} }, api.ErrSpanLinks},
		{"Links 1", func(s *api.Span) { s.Links = []api.SpanID{1} }, api.ErrSpanLinks},
		{"Parent 1", func(s *api.Span) { s.Parent = 1 }, api.OK},
		{"a text with a number", attr("k", api.Value{Kind: api.Text, Text: "x", Int: 1}), api.ErrSpanAttrs},
		{"a truth of 2", attr("k", api.Value{Kind: api.Bool, Int: 2}), api.ErrSpanAttrs},
		{"the keys b, a", func(s *api.Span) { s.Attrs = []api.Attr{{Key: "b"}, {Key: "a"}} }, api.ErrSpanAttrs},
	} {
		answers(t, "S with "+x.what, span.Check(with(plainOne(), x.turn)), x.want)
	}
	answers(t, "a span with something in every field", span.Check(richOne()), api.OK)
	answers(t, "nothing", span.Check(api.Span{}), api.ErrSpanID)
}

func TestCheckID(t *testing.T) {
	for _, x := range []struct {
		hi, lo, id uint64
		want       api.Errno
	}{
		{0, 0, 1, api.ErrSpanID}, {1, 0, 1, api.OK}, {0, 1, 1, api.OK}, {math.MaxUint64, math.MaxUint64, math.MaxUint64, api.OK},
		{1, 1, 0, api.ErrSpanID}, {0, 0, 0, api.ErrSpanID},
	} {
		s := with(plainOne(), func(s *api.Span) { s.Trace, s.ID = api.TraceID{Hi: x.hi, Lo: x.lo}, api.SpanID(x.id) })
		answers(t, fmt.Sprintf("%+v", x), span.Check(s), x.want)
	}
}

func TestCheckTime(t *testing.T) {
	moments := []int64{math.MinInt64, -1, 0, 1, 2, api.MaxTime - 1, api.MaxTime, api.MaxTime + 1, math.MaxInt64}
	for _, start := range moments {
		for _, end := range moments {
			want := api.ErrSpanTime
			if 0 <= start && start <= end && end <= 1<<62 {
				want = api.OK
			}
			s := with(plainOne(), func(s *api.Span) { s.Start, s.End = start, end })
			answers(t, fmt.Sprintf("from %d up to %d", start, end), span.Check(s), want)
		}
	}
}

// plainFrom are texts, and from which byte on each is plain (256: from none).
func plainFrom() map[string]int {
	l := map[string]int{
		"a b": 32, "ab ": 32, " ": 32, "a\tb": 9, "ä€𝄞": 33, "\u0080\u009f": 33, "\ufffd": 33, "~": 33,
		"\xff": 256, "a\xc3": 256, "a\xed\xa0\x80": 256, "\xc0\x80": 256, "\xf4\x90\x80\x80": 256, "\xc3(": 256,
	}
	for c := range 128 {
		from := min(c, 33)
		if c == 127 {
			from = 256
		}
		l["x"+string(rune(c))+"y"] = from
		l[string(rune(c))] = from
	}
	for c := 128; c < 256; c++ {
		l["x"+string([]byte{byte(c)})+"y"] = 256
	}
	return l
}

// TestCheckTexts asks each place of a plain text: its greatest length, and from which byte on it must be plain.
func TestCheckTexts(t *testing.T) {
	for _, x := range []struct {
		what string
		most int
		from int
		put  func(s *api.Span, v string)
		want api.Errno
	}{
		{"Service", 60, 33, func(s *api.Span, v string) { s.Service = v }, api.ErrSpanName},
		{"Op", 100, 32, func(s *api.Span, v string) { s.Op = v }, api.ErrSpanName},
		{"an event's Name", 100, 32, func(s *api.Span, v string) { s.Events = []api.Event{{Name: v}} }, api.ErrSpanEvents},
	} {
		ask := func(v string, good bool) {
			want := x.want
			if good {
				want = api.OK
			}
			answers(t, fmt.Sprintf("%s %q", x.what, v), span.Check(with(plainOne(), func(s *api.Span) { x.put(s, v) })), want)
		}
		ask("", false)
		ask("a", true)
		ask(strings.Repeat("a", x.most), true)
		ask(strings.Repeat("a", x.most+1), false)
		ask(strings.Repeat("ä", x.most/2), true)
		ask(strings.Repeat("ä", x.most/2+1), false)
		ask(strings.Repeat("a", 1<<20), false)
		ask(strings.Repeat("a", x.most-1)+"\x7f", false)
		for v, from := range plainFrom() {
			ask(v, from >= x.from && from < 256)
		}
	}
}

func TestCheckKind(t *testing.T) {
	for _, kind := range []int{math.MinInt, -1, 0, 1, 2, 3, 4, 5, 256, math.MaxInt} {
		for _, status := range []int{math.MinInt, -1, 0, 1, 2, 3, 4, 256, math.MaxInt} {
			want := api.ErrSpanKind
			if kind >= 0 && kind <= 4 && status >= 0 && status <= 2 {
				want = api.OK
			}
			s := with(plainOne(), func(s *api.Span) { s.Kind, s.Status = api.Kind(kind), api.Status(status) })
			answers(t, fmt.Sprintf("Kind %d, Status %d", kind, status), span.Check(s), want)
		}
	}
}

// links are so many, from one on.
func links(from api.SpanID, many int) []api.SpanID {
	var l []api.SpanID
	for i := range many {
		l = append(l, from+api.SpanID(i))
	}
	return l
}

func TestCheckLinks(t *testing.T) {
	for _, x := range []struct {
		l    []api.SpanID
		want api.Errno
	}{
		{nil, api.OK}, {[]api.SpanID{}, api.OK}, {links(1, 1), api.OK}, {links(1, 2), api.OK}, {links(1, 16), api.OK},
		{[]api.SpanID{math.MaxUint64}, api.OK}, {[]api.SpanID{1, 1 << 63}, api.OK}, {[]api.SpanID{99, 101}, api.OK},
		{links(1, 17), api.ErrSpanLinks}, {links(1, 1000), api.ErrSpanLinks},
		{[]api.SpanID{0}, api.ErrSpanLinks}, {[]api.SpanID{0, 1}, api.ErrSpanLinks}, {[]api.SpanID{1, 0}, api.ErrSpanLinks},
		{[]api.SpanID{1, 1}, api.ErrSpanLinks}, {[]api.SpanID{2, 1}, api.ErrSpanLinks}, {[]api.SpanID{1, 3, 2}, api.ErrSpanLinks},
		{[]api.SpanID{1 << 63, 1}, api.ErrSpanLinks},
		{[]api.SpanID{100}, api.ErrSpanLinks}, {[]api.SpanID{1, 100}, api.ErrSpanLinks}, {[]api.SpanID{100, 101}, api.ErrSpanLinks},
		{[]api.SpanID{1, 100, 101}, api.ErrSpanLinks},
	} {
		s := with(plainOne(), func(s *api.Span) { s.ID, s.Links, s.Parent = 100, x.l, 3 })
		answers(t, fmt.Sprint("Links ", x.l), span.Check(s), x.want)
	}
}

func TestCheckParent(t *testing.T) {
	for _, parent := range []api.SpanID{0, 1, 2, math.MaxUint64} {
		s := with(plainOne(), func(s *api.Span) { s.Parent, s.Links = parent, []api.SpanID{2} })
		answers(t, fmt.Sprint("Parent ", parent), span.Check(s), api.OK)
	}
}

// keyed are so many attributes, whose keys rise.
func keyed(many int) []api.Attr {
	var l []api.Attr
	for i := range many {
		l = append(l, api.Attr{Key: fmt.Sprintf("k%04d", i)})
	}
	return l
}

func TestCheckKeys(t *testing.T) {
	ask := func(good bool, keys ...string) {
		t.Helper()
		want := api.ErrSpanAttrs
		if good {
			want = api.OK
		}
		var l []api.Attr
		for _, k := range keys {
			l = append(l, api.Attr{Key: k})
		}
		answers(t, fmt.Sprintf("keys %q", keys), span.Check(with(plainOne(), func(s *api.Span) { s.Attrs = l })), want)
	}
	for c := range 256 {
		sign := string([]byte{byte(c)})
		letter := c >= 'a' && c <= 'z'
		ask(letter, sign)
		ask(letter, sign+"a")
		ask(letter || c >= '0' && c <= '9' || c == '.' || c == '_' || c == '-', "a"+sign)
		ask(letter || c >= '0' && c <= '9' || c == '.' || c == '_' || c == '-', "a"+sign+"b")
	}
	ask(false, "")
	ask(false, "", "a")
	ask(false, "aä")
	ask(true, strings.Repeat("a", 40))
	ask(false, strings.Repeat("a", 41))
	ask(false, strings.Repeat("a", 1<<20))
	ask(true, "a", "b")
	ask(true, "a", "a-", "a.", "a0", "a_", "aa", "ab", "b")
	ask(false, "a", "a")
	ask(false, "aa", "a")
	ask(false, "a_", "a.")
	ask(false, "a", "c", "b")
	ask(false, "a", "B")
	for _, x := range []struct {
		many int
		want api.Errno
	}{{0, api.OK}, {1, api.OK}, {32, api.OK}, {33, api.ErrSpanAttrs}, {1000, api.ErrSpanAttrs}} {
		answers(t, fmt.Sprint(x.many, " attributes"), span.Check(with(plainOne(), func(s *api.Span) { s.Attrs = keyed(x.many) })), x.want)
	}
}

func TestCheckValues(t *testing.T) {
	for _, x := range []struct {
		v    api.Value
		good bool
	}{
		{api.Value{}, true}, {api.Value{Kind: api.Text, Text: "x"}, true}, {api.Value{Kind: api.Text, Text: "\x00 \x7f\u0080€\n"}, true},
		{api.Value{Kind: api.Text, Text: strings.Repeat("x", 200)}, true}, {api.Value{Kind: api.Text, Text: strings.Repeat("x", 201)}, false},
		{api.Value{Kind: api.Text, Text: strings.Repeat("ä", 100)}, true}, {api.Value{Kind: api.Text, Text: strings.Repeat("ä", 100) + "x"}, false},
		{api.Value{Kind: api.Text, Text: "\xff"}, false}, {api.Value{Kind: api.Text, Text: "a\xed\xa0\x80"}, false}, {api.Value{Kind: api.Text, Text: "\xc0\x80"}, false},
		{api.Value{Kind: api.Text, Int: 1}, false}, {api.Value{Kind: api.Text, Text: "x", Int: -1}, false},
		{api.Value{Kind: api.Int}, true}, {api.Value{Kind: api.Int, Int: math.MinInt64}, true}, {api.Value{Kind: api.Int, Int: math.MaxInt64}, true},
		{api.Value{Kind: api.Int, Text: "x"}, false}, {api.Value{Kind: api.Int, Text: "x", Int: 5}, false},
		{api.Value{Kind: api.Bool}, true}, {api.Value{Kind: api.Bool, Int: 1}, true}, {api.Value{Kind: api.Bool, Int: 2}, false},
		{api.Value{Kind: api.Bool, Int: -1}, false}, {api.Value{Kind: api.Bool, Text: "x"}, false}, {api.Value{Kind: api.Bool, Text: "x", Int: 1}, false},
		{api.Value{Kind: 3}, false}, {api.Value{Kind: -1}, false}, {api.Value{Kind: math.MaxInt}, false}, {api.Value{Kind: math.MinInt}, false},
	} {
		want := api.ErrSpanAttrs
		if x.good {
			want = api.OK
		}
		for at := range 3 {
			l := keyed(3)
			l[at].Value = x.v
			answers(t, fmt.Sprintf("%+v", x.v), span.Check(with(plainOne(), func(s *api.Span) { s.Attrs = l })), want)
		}
	}
}

func TestCheckEvents(t *testing.T) {
	var many []api.Event
	for i := range 33 {
		many = append(many, api.Event{At: int64(i / 2), Name: []string{"a", "b"}[i%2]})
	}
	for _, x := range []struct {
		l    []api.Event
		good bool
	}{
		{nil, true}, {[]api.Event{}, true}, {many[:32], true}, {many, false},
		{[]api.Event{{At: 0, Name: "x"}}, true}, {[]api.Event{{At: 1 << 62, Name: "x"}}, true}, {[]api.Event{{At: 7, Name: "x"}, {At: 100, Name: "x"}}, true},
		{[]api.Event{{At: -1, Name: "x"}}, false}, {[]api.Event{{At: 1<<62 + 1, Name: "x"}}, false},
		{[]api.Event{{At: math.MinInt64, Name: "x"}}, false}, {[]api.Event{{At: math.MaxInt64, Name: "x"}}, false},
		{[]api.Event{{At: 1, Name: "x"}, {At: 1 << 62, Name: "x"}, {At: 1<<62 + 1, Name: "x"}}, false},
		{[]api.Event{{At: 1, Name: "x"}, {At: 2, Name: ""}}, false}, {[]api.Event{{At: 1, Name: ""}, {At: 1, Name: "x"}}, false},
		{[]api.Event{{At: 1, Name: "b"}, {At: 2, Name: "a"}}, true}, {[]api.Event{{At: 2, Name: "a"}, {At: 1, Name: "b"}}, false},
		{[]api.Event{{At: 1, Name: "a"}, {At: 1, Name: "b"}}, true}, {[]api.Event{{At: 1, Name: "a"}, {At: 1, Name: "aa"}}, true},
		{[]api.Event{{At: 1, Name: "a"}, {At: 1, Name: "a"}}, false}, {[]api.Event{{At: 1, Name: "b"}, {At: 1, Name: "a"}}, false},
		{[]api.Event{{At: 1, Name: "a"}, {At: 2, Name: "a"}, {At: 2, Name: "a"}}, false},
	} {
		want := api.ErrSpanEvents
		if x.good {
			want = api.OK
		}
		answers(t, fmt.Sprint("Events ", x.l), span.Check(with(plainOne(), func(s *api.Span) { s.Events = x.l })), want)
	}
}

// wrongs are what may be wrong with a span, in the order of the chapter.
func wrongs() []struct {
	turn func(s *api.Span)
	want api.Errno
} {
	return []struct {
		turn func(s *api.Span)
		want api.Errno
	}{
		{func(s *api.Span) { s.Trace = api.TraceID{} }, api.ErrSpanID},
		{func(s *api.Span) { s.End = api.MaxTime + 1 }, api.ErrSpanTime},
		{func(s *api.Span) { s.Op = "" }, api.ErrSpanName},
		{func(s *api.Span) { s.Status = 3 }, api.ErrSpanKind},
		{func(s *api.Span) { s.Links = []api.SpanID{0} }, api.ErrSpanLinks},
		{func(s *api.Span) { s.Attrs = []api.Attr{{Key: "9"}} }, api.ErrSpanAttrs},
		{func(s *api.Span) { s.Events = []api.Event{{At: -1, Name: "x"}} }, api.ErrSpanEvents},
	}
}

func TestCheckTellsTheFirst(t *testing.T) {
	for mask := range 1 << len(wrongs()) {
		s, want := plainOne(), api.OK
		for i, x := range wrongs() {
			if mask>>i&1 == 0 {
				continue
			}
			x.turn(&s)
			if want == api.OK {
				want = x.want
			}
		}
		answers(t, fmt.Sprintf("%+v", s), span.Check(s), want)
		answers(t, fmt.Sprintf("a clone of %+v", s), span.Check(span.Clone(s)), want)
		b, e := span.Encode(s)
		answers(t, fmt.Sprintf("Encode of %+v", s), e, want)
		if (e == api.OK) != (len(b) > 0) {
			t.Errorf("Encode of %+v: % x beside %v", s, b, e)
		}
	}
}
