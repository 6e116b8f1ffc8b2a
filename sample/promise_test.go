package sample_test

import (
	"math"
	"math/rand/v2"
	"slices"
	"testing"

	"spoor/api"
	"spoor/sample"
)

// plainDecide is the chapter's A3 read plainly, of what may be.
func plainDecide(l []api.Policy, s []api.Span) api.Verdict {
	v := none()
	if len(s) == 0 {
		return v
	}
	sure, greatest := false, 0
	for i := len(l) - 1; i >= 0; i-- {
		holds := plainHolds(l[i], s)
		if holds {
			v.Keep, v.Policy = true, i
		}
		if l[i].Kind == api.KeepPart {
			greatest = max(greatest, l[i].Part)
		} else {
			sure = sure || holds
		}
	}
	if sure {
		v.Weight.Lo = 65536
	} else if v.Keep {
		v.Weight.Lo = 4294967296 / uint64(greatest)
	}
	return v
}

func plainHolds(p api.Policy, s []api.Span) bool {
	any := false
	for _, a := range s {
		for _, b := range s {
			switch p.Kind {
			case api.KeepAll:
				any = true
			case api.KeepFailed:
				any = any || a.Status == 2
			case api.KeepSlow: // the greatest of all that lie apart
				any = any || a.End >= b.Start && uint64(a.End-b.Start) >= p.Nanos
			case api.KeepService:
				any = any || a.Service == p.Name
			case api.KeepPart:
				any = sample.Mix(a.Trace)/(1<<48) < uint64(p.Part)
			}
		}
	}
	return any
}

func drawnPolicy(r *rand.Rand) api.Policy {
	switch r.IntN(8) {
	case 0:
		return failed()
	case 1, 2:
		return slow(uint64(r.IntN(12)))
	case 3:
		return service([]string{"a", "b", "c"}[r.IntN(3)])
	case 4:
		if r.IntN(4) == 0 {
			return all()
		}
		return part(0)
	}
	return part([]int{0, 1, 30000, 32768, 65535, 65536, r.IntN(65537), r.IntN(65537)}[r.IntN(8)])
}

func drawnSpans(r *rand.Rand, t api.TraceID) []api.Span {
	var l []api.Span
	for i := range r.IntN(5) {
		from := int64(r.IntN(8))
		s := one(api.SpanID(10-i), from, from+int64(r.IntN(5)))
		s.Trace = t
		s.Service = []string{"a", "b", "d", "e"}[r.IntN(4)]
		s.Status = api.Status(r.IntN(7) / 3)
		l = append(l, s)
	}
	return l
}

func TestDecideAgainstPlain(t *testing.T) {
	r := rand.New(rand.NewPCG(21, 2))
	seen := map[api.Verdict]int{}
	for range 20000 {
		var l []api.Policy
		for range r.IntN(6) {
			l = append(l, drawnPolicy(r))
		}
		mix := r.Uint64() >> (r.IntN(3) * 8)
		s := drawnSpans(r, mixed(mix, r.Uint64()))
		v, e := sample.Decide(l, s)
		if want := plainDecide(l, s); v != want || e != api.OK {
			t.Fatalf("Decide of %+v, %+v: %+v, %v, not %+v", l, s, v, e, want)
		}
		v.Weight.Lo = min(v.Weight.Lo, whole+1)
		seen[v]++
		slices.Reverse(s)
		if turned, _ := sample.Decide(l, s); turned.Policy != v.Policy {
			t.Fatalf("Decide of %+v, %+v in another order: %+v", l, s, turned)
		}
	}
	if len(seen) < 11 {
		t.Errorf("only %d verdicts were drawn: %v", len(seen), seen)
	}
}

// TestWhatItStandsFor is P21.3: the mix goes through all of its first 16 bits, on which alone a verdict hangs.
func TestWhatItStandsFor(t *testing.T) {
	for i, c := range []struct {
		l    []api.Policy
		part uint64 // the greatest one; 0: a sure one holds, or none
		want uint64 // if part is 0: the sum of the weights
	}{
		{policies(part(1)), 1, 0},
		{policies(part(3), part(2)), 3, 0},
		{policies(part(7), failed(), part(1000)), 1000, 0},
		{policies(slow(9), part(40000), part(65535)), 65535, 0},
		{policies(part(65536)), 65536, 0},
		{policies(part(5), all()), 0, whole * whole},
		{policies(failed(), slow(9)), 0, 0},
		{policies(part(0)), 0, 0},
	} {
		sum, kept := uint64(0), uint64(0)
		for top := range uint64(whole) {
			v, e := sample.Decide(c.l, spans(of(mixed(top<<48|top*77, top+1))))
			if e != api.OK || v.Weight.Hi != 0 || v.Keep != (v.Weight.Lo > 0) {
				t.Fatal(i, v, e)
			}
			sum += v.Weight.Lo
			if v.Keep {
				kept++
			}
		}
		if c.part == 0 && sum != c.want {
			t.Errorf("%d: %d, not %d", i, sum, c.want)
		}
		// the weight of one is rounded down, so the sum lacks less than 1 of each that is kept
		if c.part > 0 && (kept != c.part || sum > whole*whole || whole*whole-sum >= kept) {
			t.Errorf("%d: %d of a sum of %d", i, kept, sum)
		}
	}
}

// TestNamesAlone is P21.4: the verdict hangs on the mix and on which sure policies hold.
func TestNamesAlone(t *testing.T) {
	r := rand.New(rand.NewPCG(21, 3))
	for range 2000 {
		var l []api.Policy
		for range 1 + r.IntN(6) {
			l = append(l, drawnPolicy(r))
		}
		mix, found := r.Uint64(), map[string]api.Verdict{}
		for range 20 {
			s := drawnSpans(r, mixed(mix, r.Uint64()>>r.IntN(64)|1))
			if len(s) == 0 {
				continue
			}
			sure := ""
			for i, p := range l {
				if p.Kind != api.KeepPart && plainHolds(p, s) {
					sure += string(rune('a' + i))
				}
			}
			v, e := sample.Decide(l, s)
			if elder, there := found[sure]; e != api.OK || there && v != elder {
				t.Fatalf("%+v of %+v: %+v and %+v, %v", l, s, v, elder, e)
			}
			found[sure] = v
		}
	}
}

// TestGreaterPartKeepsAll is P21.4's other half.
func TestGreaterPartKeepsAll(t *testing.T) {
	r := rand.New(rand.NewPCG(21, 4))
	for range 300 {
		s := spans(of(api.TraceID{Hi: r.Uint64(), Lo: r.Uint64()}))
		was := false
		for n := 0; n <= whole; n += 1 + r.IntN(1500) {
			v, e := sample.Decide(policies(part(n)), s)
			if e != api.OK || was && !v.Keep {
				t.Fatalf("%d lets %v go: %v, %v", n, s[0].Trace, v, e)
			}
			was = v.Keep
		}
		decides(t, "all", policies(part(whole)), s, kept(0, whole))
	}
}

// TestNamesAreSpread: of names in a row about as many are kept as the part says.
func TestNamesAreSpread(t *testing.T) {
	for _, n := range []int{655, 6554, 32768} {
		got := 0
		for i := range 20000 {
			if v, _ := sample.Decide(policies(part(n)), spans(of(api.TraceID{Lo: uint64(i + 1)}))); v.Keep {
				got++
			}
		}
		want := 20000 * float64(n) / whole
		if math.Abs(float64(got)-want) > 5*math.Sqrt(want) {
			t.Errorf("of part %d: %d, not about %.0f", n, got, want)
		}
	}
}
