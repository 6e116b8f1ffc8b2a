package engine_test

import (
	"bytes"
	"fmt"
	"math/rand/v2"
	"testing"

	"spoor/api"
	"spoor/disk"
	"spoor/engine"
)

// handIn hands spans to an engine in a random order, cut into batches in a random way, some of them twice, with all that may stand between; the engine at the end, which may have been opened anew.
func handIn(t *testing.T, r *rand.Rand, d *disk.Disk, c api.Config, l []api.Span) *engine.Engine {
	t.Helper()
	e := opened(t, d, c)
	l = append([]api.Span(nil), l...)
	l = append(l, l[:r.IntN(len(l)+1)]...)
	r.Shuffle(len(l), func(i, j int) { l[i], l[j] = l[j], l[i] })
	for len(l) > 0 {
		n := min(len(l), r.IntN(20))
		takes(t, e, l[:n]...)
		l = l[n:]
		switch r.IntN(8) {
		case 0:
			ok(t, "Flush", e.Flush())
		case 1:
			ok(t, "Checkpoint", e.Checkpoint())
		case 2:
			for _, q := range few(r, 5) {
				e.Ask(q.bytes())
			}
		case 3:
			e = opened(t, d, c)
		case 4:
			ok(t, "Flush", e.Flush())
			d.Restart(api.Keep{})
			e = opened(t, d, c)
		case 5:
			e.Watch(parsed(t, `{service = "a"}`), 5)
		case 6:
			e.Ingest([]byte("junk"))
		}
	}
	return e
}

// P23.3: engines with the same S answer alike, however the spans came, whatever was asked and done between, and whatever their configuration is; of windows those of the same Fan.
func TestSameSpansSameAnswers(t *testing.T) {
	all := questions()
	for seed := range uint64(25) {
		r := rand.New(rand.NewPCG(233, seed))
		l := someSpans(r, r.IntN(90))
		p := plain{}
		p.put(l...)
		fan := 2 + r.IntN(15)
		first := handIn(t, r, disk.New(), api.Config{Segment: 64, Fan: fan, Workers: 1}, l)
		p.holds(t, fmt.Sprint("seed ", seed), first.Ask, int64(fan), few(r, 200))
		for range 4 {
			c := api.Config{Segment: []int{64, 100, 1000, 1 << 24}[r.IntN(4)], Fan: 2 + r.IntN(15), Workers: 1 + r.IntN(16)}
			if r.IntN(2) == 0 {
				c.Fan = fan
			}
			other := handIn(t, r, disk.New(), c, l)
			for _, q := range all {
				if q.kind == 9 && c.Fan != fan {
					continue
				}
				if a, b := first.Ask(q.bytes()), other.Ask(q.bytes()); !bytes.Equal(a, b) {
					t.Fatalf("seed %d: %+v: %x and %x", seed, q, a, b)
				}
			}
		}
	}
}

// Windows hang on the Fan alone: an engine that is opened anew with another one tells other windows of the same tallies.
func TestFanOnTheSameDisk(t *testing.T) {
	r := rand.New(rand.NewPCG(233, 99))
	d, p := disk.New(), plain{}
	l := someSpans(r, 90)
	p.put(l...)
	handIn(t, r, d, small, l)
	for fan := 2; fan <= 16; fan++ {
		e := opened(t, d, api.Config{Segment: 64, Fan: fan, Workers: 3})
		p.holds(t, fmt.Sprint("fan ", fan), e.Ask, int64(fan), questions())
	}
}
