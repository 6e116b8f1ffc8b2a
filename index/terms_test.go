package index_test

import (
	"math"
	"slices"
	"strings"
	"testing"

	"spoor/api"
	"spoor/index"
	"spoor/span"
)

// terms are fields and values, one behind the other.
func terms(l ...string) []api.Term {
	var out []api.Term
	for i := 0; i < len(l); i += 2 {
		out = append(out, api.Term{Field: l[i], Value: l[i+1]})
	}
	return out
}

func term(field, value string) api.Term { return api.Term{Field: field, Value: value} }

func number(n int64) api.Value { return api.Value{Kind: api.Int, Int: n} }
func text(s string) api.Value  { return api.Value{Text: s} }
func truth(n int64) api.Value  { return api.Value{Kind: api.Bool, Int: n} }

// example is the chapter's span, of a trace.
func example(trace api.TraceID) api.Span {
	return api.Span{Trace: trace, ID: 1, Service: "a", Op: "b", Kind: api.Client, Attrs: []api.Attr{
		{Key: "n", Value: number(-5)}, {Key: "t", Value: text("x")}, {Key: "z", Value: truth(1)},
	}}
}

// plain is a span with nothing but what it must have.
func plain(trace api.TraceID, id api.SpanID, service, op string) api.Span {
	return api.Span{Trace: trace, ID: id, Service: service, Op: op}
}

// with is a span in which something is turned.
func with(s api.Span, turn func(s *api.Span)) api.Span {
	turn(&s)
	return s
}

func lo(n uint64) api.TraceID { return api.TraceID{Lo: n} }

func termsAre(t *testing.T, s api.Span, want []api.Term) {
	t.Helper()
	if l := index.Terms(s); !slices.Equal(l, want) {
		t.Errorf("%+v: %q, not %q", s, l, want)
	}
}

// X1: the chapter's example.
func TestTermsExample(t *testing.T) {
	termsAre(t, example(lo(1)), terms(".n", "-5", ".t", `"x`, ".z", "true", "kind", "client", "op", "b", "service", "a", "status", "unset"))
}

// Each kind and each status has its word.
func TestTermsWords(t *testing.T) {
	for i, k := range []string{"internal", "server", "client", "producer", "consumer"} {
		for j, st := range []string{"unset", "fine", "failed"} {
			s := with(plain(lo(1), 1, "a", "b"), func(s *api.Span) { s.Kind, s.Status = api.Kind(i), api.Status(j) })
			termsAre(t, s, terms("kind", k, "op", "b", "service", "a", "status", st))
		}
	}
}

// Values of attributes, with those that are written alike but for their kind.
func TestTermsOfValues(t *testing.T) {
	for _, c := range []struct {
		v    api.Value
		want string
	}{
		{text(""), `"`},
		{text("5"), `"5`},
		{text("true"), `"true`},
		{text(`"`), `""`},
		{text(`a"b\`), `"a"b\`},
		{text("é\x00\n "), "\"é\x00\n "},
		{text(strings.Repeat("é", 100)), `"` + strings.Repeat("é", 100)},
		{number(0), "0"},
		{number(5), "5"},
		{number(1), "1"},
		{number(-1), "-1"},
		{number(math.MaxInt64), "9223372036854775807"},
		{number(math.MinInt64), "-9223372036854775808"},
		{truth(0), "false"},
		{truth(1), "true"},
	} {
		s := with(plain(lo(1), 1, "a", "b"), func(s *api.Span) { s.Attrs = []api.Attr{{Key: "k", Value: c.v}} })
		termsAre(t, s, terms(".k", c.want, "kind", "internal", "op", "b", "service", "a", "status", "unset"))
	}
}

// Fields and texts are told as they are, however they look; keys that are like fields are not the fields.
func TestTermsOfNames(t *testing.T) {
	s := with(plain(lo(1), 1, `"é.`, "true x"), func(s *api.Span) {
		s.Attrs = []api.Attr{{Key: "kind", Value: text("client")}, {Key: "op", Value: number(7)}, {Key: "op-", Value: number(8)}, {Key: "op.a", Value: truth(0)}, {Key: "op0", Value: text("")}, {Key: "op_", Value: text("q")}, {Key: "opa", Value: number(-7)}, {Key: "service", Value: text("a")}, {Key: "status", Value: text("fine")}}
	})
	termsAre(t, s, terms(".kind", `"client`, ".op", "7", ".op-", "8", ".op.a", "false", ".op0", `"`, ".op_", `"q`, ".opa", "-7", ".service", `"a`, ".status", `"fine`,
		"kind", "internal", "op", "true x", "service", `"é.`, "status", "unset"))
	long := strings.Repeat("k", api.MaxKey)
	s = with(plain(lo(1), 1, strings.Repeat("s", api.MaxName), strings.Repeat("o", api.MaxOp)), func(s *api.Span) { s.Attrs = []api.Attr{{Key: long, Value: number(3)}} })
	termsAre(t, s, terms("."+long, "3", "kind", "internal", "op", s.Op, "service", s.Service, "status", "unset"))
}

// What else a span has makes no terms.
func TestTermsOfNothingElse(t *testing.T) {
	s := with(plain(api.TraceID{Hi: 9, Lo: 8}, 7, "a", "b"), func(s *api.Span) {
		s.Parent, s.Links, s.Start, s.End, s.Events = 3, []api.SpanID{1, 2}, 5, 9, []api.Event{{At: 1, Name: "e"}}
	})
	termsAre(t, s, terms("kind", "internal", "op", "b", "service", "a", "status", "unset"))
}

// As many attributes as there may be: all rise, each once.
func TestTermsOfMany(t *testing.T) {
	s := plain(lo(1), 1, "a", "b")
	var want []api.Term
	for i := range api.MaxAttrs {
		key := "k" + string(rune('a'+i/26)) + string(rune('a'+i%26))
		s.Attrs = append(s.Attrs, api.Attr{Key: key, Value: number(7)})
		want = append(want, term("."+key, "7"))
	}
	termsAre(t, s, append(want, terms("kind", "internal", "op", "b", "service", "a", "status", "unset")...))
}

// broken has spans that may not be, each for another reason.
func broken(trace api.TraceID) []api.Span {
	var l []api.Span
	for _, turn := range []func(s *api.Span){
		func(s *api.Span) { s.ID = 0 },
		func(s *api.Span) { s.Start = 1 },
		func(s *api.Span) { s.Start, s.End = -1, -1 },
		func(s *api.Span) { s.Service = "" },
		func(s *api.Span) { s.Service = "a b" },
		func(s *api.Span) { s.Op = "" },
		func(s *api.Span) { s.Op = "\xff" },
		func(s *api.Span) { s.Kind = 5 },
		func(s *api.Span) { s.Kind = -1 },
		func(s *api.Span) { s.Kind = math.MaxInt },
		func(s *api.Span) { s.Status = 3 },
		func(s *api.Span) { s.Status = math.MinInt },
		func(s *api.Span) { s.Links = []api.SpanID{1} },
		func(s *api.Span) { s.Links = []api.SpanID{3, 2} },
		func(s *api.Span) { s.Attrs = []api.Attr{{Key: "b"}, {Key: "a"}} },
		func(s *api.Span) { s.Attrs = []api.Attr{{Key: "a"}, {Key: "a"}} },
		func(s *api.Span) { s.Attrs = []api.Attr{{Key: "A"}} },
		func(s *api.Span) { s.Attrs = []api.Attr{{Key: "a", Value: truth(2)}} },
		func(s *api.Span) { s.Attrs = []api.Attr{{Key: "a", Value: api.Value{Kind: 3}}} },
		func(s *api.Span) { s.Attrs = make([]api.Attr, api.MaxAttrs+1) },
		func(s *api.Span) { s.Events = []api.Event{{}} },
	} {
		l = append(l, with(example(trace), turn))
	}
	return l
}

// A span that may not be has none.
func TestTermsOfNone(t *testing.T) {
	for _, s := range append(broken(lo(1)), example(api.TraceID{}), api.Span{}) {
		if span.Check(s) == api.OK {
			t.Fatalf("%+v may be", s)
		}
		termsAre(t, s, nil)
	}
}
