package vault_test

import (
	"fmt"
	"math/rand/v2"
	"slices"
	"testing"

	"spoor/api"
	"spoor/disk"
	"spoor/vault"
)

// keeps is all that may outlast a loss of power, of a few pending steps; of many units those about the edges of frames.
func keeps(k api.Keep) []api.Keep {
	l := []api.Keep{{}}
	for _, n := range k.Data {
		var more []api.Keep
		for _, ahead := range l {
			for u := range n + 1 {
				if n > 60 && u%24 > 1 && u != n && u != n-1 {
					continue
				}
				more = append(more, api.Keep{Data: append(slices.Clone(ahead.Data), u)})
			}
		}
		l = more
	}
	var all []api.Keep
	for names := range k.Names + 1 {
		for _, x := range l {
			all = append(all, api.Keep{Names: names, Data: x.Data})
		}
	}
	return all
}

// P20.1: behind a Save that answered OK, of a number that is not less than the others, Load tells the block.
func TestThereAndBack(t *testing.T) {
	for seed := range uint64(300) {
		r := rand.New(rand.NewPCG(201, seed))
		d := disk.New()
		through := uint64(0)
		for range 6 {
			through += uint64(r.IntN(3)) << r.IntN(60)
			b := block(through, someSpans(r)...)
			if r.IntN(10) == 0 {
				b.Spans = several(r.IntN(1200))
			}
			saves(t, d, b)
			tells(t, fmt.Sprint("row ", seed), d, b)
			tells(t, fmt.Sprint("row ", seed, ", behind a loss of power"), restarted(d, api.Keep{}), b)
			if r.IntN(3) == 0 {
				vault.Clean(d)
				tells(t, fmt.Sprint("row ", seed, ", cleaned"), d, b)
			}
		}
	}
}

// P20.2: wherever the power goes in Save, whatever is done of the change, and whatever outlasts: the block that was there, or the new one, whole.
func TestPowerGoesInSave(t *testing.T) {
	for _, s := range scenes() {
		if s.number < s.newest {
			continue
		}
		before := s.lasting()
		elder, err := vault.Load(before)
		if err != nil {
			t.Fatal(err)
		}
		newer := block(s.number, append(ones(1, 6), richOne(api.TraceID{Hi: 1}, 1))...)
		told := map[bool]int{}
		arms(func(n int, how api.How, units int) {
			d := before.Copy()
			d.Arm(n, how, units)
			e := vault.Save(d, newer)
			for _, k := range keeps(d.Pending()) {
				what := fmt.Sprint(s.what, ", armed with ", n, how, units, ", keeping ", k)
				b, err := vault.Load(restarted(d, k))
				if err != nil || !sameBlock(b, newer) && (e == api.OK || !sameBlock(b, elder)) {
					t.Fatalf("%s: %+v, %v", what, b, err)
				}
				told[sameBlock(b, newer)]++
			}
			if !d.Off() {
				b, err := vault.Load(d)
				if err != nil || !sameBlock(b, newer) && (e == api.OK || !sameBlock(b, elder)) {
					t.Fatalf("%s, armed with %d, the power staying on: %+v, %v", s.what, n, b, err)
				}
			}
		})
		if told[true] == 0 || told[false] == 0 {
			t.Errorf("%s: %v", s.what, told)
		}
	}
}

// Nothing of a block but its name is pending when it gets that: so it is whole as soon as it has it.
func TestNamedWhole(t *testing.T) {
	for n := 1; n <= 7; n++ {
		for _, units := range []int{0, 1, 99, 9999} {
			d := disk.New()
			saves(t, d, block(1, ones(1)...))
			d.Arm(n, api.Stop, units)
			newer := block(2, several(600)...)
			vault.Save(d, newer)
			k := d.Pending()
			for names := range k.Names + 1 {
				c := restarted(d, api.Keep{Names: names})
				want := block(1, ones(1)...)
				if slices.Contains(blocks(c), 2) {
					want = newer
				}
				tells(t, fmt.Sprint("armed with ", n, ", ", names, " names kept"), c, want)
			}
		}
	}
}

// P20.3: Clean changes nothing of what Load tells, wherever the power goes in it, and whatever outlasts; what it has answered OK of lasts.
func TestPowerGoesInClean(t *testing.T) {
	for _, s := range scenes() {
		before := s.lasting()
		want, err := vault.Load(before)
		if err != nil {
			t.Fatal(err)
		}
		arms(func(n int, how api.How, units int) {
			d := before.Copy()
			d.Arm(n, how, units)
			_, e := vault.Clean(d)
			ends := []*disk.Disk{d}
			if d.Off() {
				ends = nil
			}
			for _, k := range keeps(d.Pending()) {
				ends = append(ends, restarted(d, k))
			}
			for _, c := range ends {
				tells(t, fmt.Sprint(s.what, ", cleaned, armed with ", n, how, units), c, want)
				if e == api.OK && (hasTemp(c) || len(blocks(c)) > 1) {
					t.Fatalf("%s: %v are there behind Clean", s.what, blocks(c))
				}
			}
		})
	}
}

// Clean goes by rising numbers: whichever of the removals last, those that are left have no gap below them.
func TestCleanRises(t *testing.T) {
	d := disk.New()
	for _, n := range []uint64{100, 9, 30, 2, 1 << 40} {
		saves(t, d, block(n, ones(api.SpanID(n))...))
	}
	lay(t, d, "blk.tmp", nil)
	d.Arm(6, api.Stop, 0)
	cleans(t, "five blocks", d, 0, api.ErrDiskOff)
	left := []uint64{2, 9, 30, 100, 1 << 40}
	for names := range 6 {
		c := restarted(d, api.Keep{Names: names})
		if want := left[max(names-1, 0):]; !slices.Equal(blocks(c), want) || hasTemp(c) != (names == 0) {
			t.Errorf("%d removals kept: %v, %v", names, blocks(c), hasTemp(c))
		}
	}
}

// Rows of Saves, Cleans and losses of power, one behind the other: what was found behind each loss is what the next row begins with.
func TestPowerGoesAgainAndAgain(t *testing.T) {
	for seed := range uint64(1000) {
		r := rand.New(rand.NewPCG(202, seed))
		d := disk.New()
		through := uint64(0)
		sure := api.Block{} // what Load must tell
		var maybe []api.Block
		for life := range 6 {
			what := fmt.Sprint("row ", seed, ", life ", life)
			d.Arm(1+r.IntN(20), api.Stop, r.IntN(300)*r.IntN(2))
			for !d.Off() && r.IntN(8) > 0 {
				if r.IntN(3) == 0 {
					vault.Clean(d)
					continue
				}
				through += uint64(r.IntN(3))
				b := block(through, someSpans(r)...)
				if vault.Save(d, b) == api.OK {
					sure, maybe = b, nil
				} else {
					maybe = append(maybe, b)
				}
			}
			d.Restart(someKeep(r, d.Pending()))
			b, err := vault.Load(d)
			is := func(x api.Block) bool { return sameBlock(x, b) }
			if err != nil || !is(sure) && !slices.ContainsFunc(maybe, is) {
				t.Fatalf("%s: %+v, %v; not %+v, nor one of %+v", what, b, err, sure, maybe)
			}
			sure, maybe = b, nil
		}
	}
}
