package sample_test

import (
	"math"
	"strings"
	"testing"

	"spoor/api"
	"spoor/sample"
)

const whole = 65536

func none() api.Verdict { return api.Verdict{Policy: -1} }

func kept(policy int, weight uint64) api.Verdict {
	return api.Verdict{Keep: true, Policy: policy, Weight: api.Nat{Lo: weight}}
}

func part(n int) api.Policy { return api.Policy{Kind: api.KeepPart, Part: n} }

func slow(n uint64) api.Policy { return api.Policy{Kind: api.KeepSlow, Nanos: n} }

func service(name string) api.Policy { return api.Policy{Kind: api.KeepService, Name: name} }

func failed() api.Policy { return api.Policy{Kind: api.KeepFailed} }

func all() api.Policy { return api.Policy{Kind: api.KeepAll} }

func policies(l ...api.Policy) []api.Policy { return l }

func spans(l ...api.Span) []api.Span { return l }

// one is a span of trace 0/7 and the service b.
func one(id api.SpanID, from, to int64) api.Span {
	return api.Span{Trace: api.TraceID{Lo: 7}, ID: id, Service: "b", Op: "o", Start: from, End: to}
}

// of is a span like that, of another trace.
func of(t api.TraceID) api.Span {
	s := one(1, 0, 1)
	s.Trace = t
	return s
}

func with(s api.Span, turn func(s *api.Span)) api.Span {
	turn(&s)
	return s
}

func many(n int) []api.Span {
	var l []api.Span
	for i := range n {
		l = append(l, one(api.SpanID(n-i), int64(i), int64(i)+1))
	}
	return l
}

func checks(t *testing.T, what any, l []api.Policy, want api.Errno) {
	t.Helper()
	if e := sample.Check(l); e != want {
		t.Errorf("Check of %v: %v, not %v", what, e, want)
	}
}

func decides(t *testing.T, what any, l []api.Policy, s []api.Span, want api.Verdict) {
	t.Helper()
	if v, e := sample.Decide(l, s); v != want || e != api.OK {
		t.Errorf("Decide of %v: %+v, %v, not %+v", what, v, e, want)
	}
}

func refuses(t *testing.T, what any, l []api.Policy, s []api.Span, want api.Errno) {
	t.Helper()
	if v, e := sample.Decide(l, s); v != (api.Verdict{}) || e != want {
		t.Errorf("Decide of %v: %+v, %v, not %v", what, v, e, want)
	}
}

// The chapter's examples.

func TestExamplesOfCheck(t *testing.T) {
	checks(t, "KeepPart 65537", policies(part(65537)), api.ErrSamplePolicy)
	checks(t, "KeepAll with Nanos 1", policies(api.Policy{Nanos: 1}), api.ErrSamplePolicy)
	checks(t, "KeepService without a Name", policies(service("")), api.ErrSamplePolicy)
	checks(t, "21 policies", make([]api.Policy, 21), api.ErrSamplePolicy)
}

func TestExamplesOfDecide(t *testing.T) {
	fails := with(one(1, 0, 1), func(s *api.Span) { s.Status = api.Failed })
	decides(t, "a failed span of b", policies(service("a"), failed()), spans(fails), kept(1, whole))
	decides(t, "KeepPart 0", policies(part(0)), spans(one(1, 0, 1)), none())
	decides(t, "no policy", nil, spans(one(1, 0, 1)), none())
	decides(t, "no span", policies(all()), nil, none())
	decides(t, "KeepPart 65536", policies(part(whole)), spans(one(1, 0, 1)), kept(0, whole))
	decides(t, "KeepSlow 5", policies(slow(5)), spans(one(1, 3, 4), one(2, 7, 8)), kept(0, whole))
}

// Check.

func TestPoliciesThatMayBe(t *testing.T) {
	for _, p := range policies(
		all(), failed(),
		slow(0), slow(1), slow(math.MaxUint64),
		service("a"), service("!~"), service("grün"), service(strings.Repeat("z", 60)), service(strings.Repeat("ü", 30)),
		part(0), part(1), part(65535), part(65536),
	) {
		checks(t, p, policies(p), api.OK)
	}
	checks(t, "no policy", nil, api.OK)
	checks(t, "an empty list", policies(), api.OK)
}

func wrongPolicies() []api.Policy {
	return policies(
		api.Policy{Kind: -1}, api.Policy{Kind: 5}, api.Policy{Kind: math.MinInt32}, api.Policy{Kind: math.MaxInt32},
		part(-1), part(65537), part(math.MinInt32), part(math.MaxInt32),
		service(""), service(" "), service("a b"), service("a\x1f"), service("a\x7f"), service("\xff"), service("a\xc3"),
		service(strings.Repeat("z", 61)), service(strings.Repeat("ü", 30)+"z"),
	)
}

func TestPoliciesThatMayNotBe(t *testing.T) {
	for _, p := range wrongPolicies() {
		checks(t, p, policies(p), api.ErrSamplePolicy)
	}
}

// TestWhatIsNotOfItsKind: a field that another kind has.
func TestWhatIsNotOfItsKind(t *testing.T) {
	right := policies(all(), failed(), slow(3), service("a"), part(9))
	for _, p := range right {
		for _, c := range []struct {
			kind api.PolicyKind
			turn func(p *api.Policy)
		}{
			{api.KeepSlow, func(p *api.Policy) { p.Nanos = 1 }},
			{api.KeepSlow, func(p *api.Policy) { p.Nanos = 1 << 63 }},
			{api.KeepService, func(p *api.Policy) { p.Name = "a" }},
			{api.KeepService, func(p *api.Policy) { p.Name = "a b"; p.Part = 0 }},
			{api.KeepPart, func(p *api.Policy) { p.Part = 1 }},
			{api.KeepPart, func(p *api.Policy) { p.Part = -1 }},
		} {
			if p.Kind != c.kind {
				turned := p
				c.turn(&turned)
				checks(t, turned, policies(turned), api.ErrSamplePolicy)
			}
		}
	}
}

// TestEachPlaceIsLookedAt: a policy that may not be, wherever it stands.
func TestEachPlaceIsLookedAt(t *testing.T) {
	for n := 1; n <= api.MaxPolicies; n++ {
		checks(t, n, make([]api.Policy, n), api.OK)
		for i := range n {
			for _, p := range wrongPolicies() {
				l := make([]api.Policy, n)
				l[i] = p
				checks(t, l, l, api.ErrSamplePolicy)
				refuses(t, l, l, spans(one(1, 0, 1)), api.ErrSamplePolicy)
			}
		}
	}
	checks(t, "very many", make([]api.Policy, 100000), api.ErrSamplePolicy)
}

// Decide: what is wrong.

func wrongSpans() [][]api.Span {
	other := func(hi, lo uint64) func(s *api.Span) {
		return func(s *api.Span) { s.Trace = api.TraceID{Hi: hi, Lo: lo} }
	}
	return [][]api.Span{
		many(1001),
		spans(api.Span{}),
		spans(one(0, 0, 1)),
		spans(one(1, 2, 1)),
		spans(one(1, 0, 1), with(one(2, 0, 1), func(s *api.Span) { s.Service = "a b" })),
		spans(one(1, 0, 1), with(one(2, 0, 1), func(s *api.Span) { s.Status = 3 }), one(3, 0, 1)),
		spans(one(1, 0, 1), with(one(2, 0, 1), func(s *api.Span) { s.Links = []api.SpanID{2} })),
		spans(one(1, 0, 1), with(one(2, 0, 1), func(s *api.Span) { s.Attrs = []api.Attr{{}} })),
		spans(with(one(2, 0, 1), func(s *api.Span) { s.Events = []api.Event{{}} }), one(1, 0, 1)),
		spans(one(1, 0, 1), with(one(2, 0, 1), other(0, 8))),
		spans(one(1, 0, 1), with(one(2, 0, 1), other(1, 7))),
		spans(one(1, 0, 1), one(2, 0, 1), with(one(3, 0, 1), other(7, 0))),
		spans(one(1, 0, 1), one(1, 0, 1)),
		spans(one(1, 0, 1), one(2, 0, 1), one(3, 0, 1), one(1, 5, 6)),
		append(many(999), one(500, 0, 1)),
	}
}

func TestSpansThatAreNotOneTraces(t *testing.T) {
	for i, s := range wrongSpans() {
		for _, l := range [][]api.Policy{nil, policies(all()), policies(part(0)), policies(part(whole))} {
			refuses(t, i, l, s, api.ErrForestSpans)
		}
	}
}

func TestPoliciesAreToldFirst(t *testing.T) {
	for i, s := range wrongSpans() {
		for _, p := range wrongPolicies() {
			refuses(t, i, policies(all(), p), s, api.ErrSamplePolicy)
		}
		refuses(t, i, make([]api.Policy, 21), s, api.ErrSamplePolicy)
	}
	refuses(t, "no span", make([]api.Policy, 21), nil, api.ErrSamplePolicy)
}

func TestThousandSpans(t *testing.T) {
	decides(t, "1000 spans", policies(slow(1001), slow(1000)), many(1000), kept(1, whole))
	last := many(1000)
	last[999].Status = api.Failed
	decides(t, "of which the last one failed", policies(failed()), last, kept(0, whole))
	last[0].Service = "first"
	decides(t, "of which the first one is another's", policies(service("first")), last, kept(0, whole))
}

// Decide: each kind.

func TestKeepFailed(t *testing.T) {
	for status, want := range map[api.Status]api.Verdict{api.Unset: none(), api.Fine: none(), api.Failed: kept(0, whole)} {
		turned := with(one(2, 0, 1), func(s *api.Span) { s.Status = status })
		decides(t, status, policies(failed()), spans(turned), want)
		decides(t, status, policies(failed()), spans(one(1, 0, 1), turned, one(3, 0, 1)), want)
	}
}

func TestKeepSlow(t *testing.T) {
	for i, c := range []struct {
		l    []api.Span
		took uint64
	}{
		{spans(one(1, 5, 5)), 0},
		{spans(one(1, 5, 6)), 1},
		{spans(one(1, 3, 4), one(2, 7, 8)), 5},
		{spans(one(2, 7, 8), one(1, 3, 4)), 5},
		{spans(one(1, 0, 100), one(2, 10, 20)), 100},
		{spans(one(1, 10, 20), one(2, 0, 100), one(3, 30, 40)), 100},
		{spans(one(1, 0, 1), one(2, api.MaxTime, api.MaxTime)), api.MaxTime},
		{spans(one(1, api.MaxTime, api.MaxTime)), 0},
	} {
		decides(t, i, policies(slow(c.took)), c.l, kept(0, whole))
		decides(t, i, policies(slow(c.took+1)), c.l, none())
		decides(t, i, policies(slow(math.MaxUint64)), c.l, none())
		decides(t, i, policies(slow(0)), c.l, kept(0, whole))
	}
}

func TestKeepService(t *testing.T) {
	l := spans(one(1, 0, 1), with(one(2, 0, 1), func(s *api.Span) { s.Service = "web" }), one(3, 0, 1))
	for name, want := range map[string]api.Verdict{
		"b": kept(0, whole), "web": kept(0, whole), "we": none(), "webs": none(), "B": none(), "o": none(),
	} {
		decides(t, name, policies(service(name)), l, want)
	}
}

// TestKeepPart asks at both sides of each edge, by names that are made for a mix.
func TestKeepPart(t *testing.T) {
	for _, n := range []int{0, 1, 2, 3, 5, 4096, 32767, 32768, 65535, 65536} {
		edge := uint64(n) << 48 // of 65536: 0, as the mixes go round
		for _, lo := range []uint64{1, 2, 7, math.MaxUint64} {
			last, first := spans(of(mixed(edge-1, lo))), spans(of(mixed(edge, lo)))
			if n > 0 {
				decides(t, n, policies(part(n)), last, kept(0, (1<<32)/uint64(n)))
			}
			if n < whole {
				decides(t, n, policies(part(n)), first, none())
			}
		}
	}
}

// TestWhichPolicyAndWhatWeight: the first that holds is told, but the weight asks all of them.
func TestWhichPolicyAndWhatWeight(t *testing.T) {
	lucky, unlucky := spans(of(mixed(0, 3))), spans(of(mixed(math.MaxUint64, 3)))
	for i, c := range []struct {
		l      []api.Policy
		spans  []api.Span
		answer api.Verdict
	}{
		{policies(all(), all()), unlucky, kept(0, whole)},
		{policies(failed(), slow(1), all()), unlucky, kept(1, whole)},
		{policies(part(1), all()), unlucky, kept(1, whole)},
		{policies(part(1), all()), lucky, kept(0, whole)},
		{policies(part(1), failed()), lucky, kept(0, 1<<32)},
		{policies(part(1), failed()), unlucky, none()},
		{policies(part(1), part(3)), lucky, kept(0, 1431655765)},
		{policies(part(3), part(1)), lucky, kept(0, 1431655765)},
		{policies(part(0), part(3), failed(), part(2)), lucky, kept(1, 1431655765)},
		{policies(part(0), part(3), slow(1), part(2)), lucky, kept(1, whole)},
		{policies(part(0), part(3), slow(1), part(2)), unlucky, kept(2, whole)},
		{policies(part(65535)), lucky, kept(0, 65537)},
		{policies(part(65535), part(65536)), unlucky, kept(1, whole)},
		{policies(part(0), part(0)), lucky, none()},
		{append(make([]api.Policy, 0, 20), many20()...), lucky, kept(19, whole)},
	} {
		decides(t, i, c.l, c.spans, c.answer)
	}
}

// many20 are policies of which only the last one holds.
func many20() []api.Policy {
	var l []api.Policy
	for range 19 {
		l = append(l, failed())
	}
	return append(l, all())
}
