package sample_test

import (
	"math"
	"math/big"
	"math/rand/v2"
	"testing"

	"spoor/api"
	"spoor/sample"
)

// unblend goes the chapter's steps back.
func unblend(v uint64) uint64 {
	v ^= v >> 32
	v *= undone(0x6A09E667F3BCC909)
	v ^= v>>29 ^ v>>58
	v *= undone(0x9E3779B97F4A7C15)
	return v ^ v>>31 ^ v>>62
}

// undone is the number that a factor takes to 1.
func undone(factor uint64) uint64 {
	n := factor
	for range 6 {
		n *= 2 - factor*n
	}
	return n
}

// mixed is the trace of a Lo that has a mix. (The mix of lo/0 is the blend of lo, as that of 0 is 0.)
func mixed(mix, lo uint64) api.TraceID {
	return api.TraceID{Hi: unblend(mix) - sample.Mix(api.TraceID{Hi: lo}), Lo: lo}
}

// plainBlend is the chapter's text in numbers of any size.
func plainBlend(v uint64) uint64 {
	number := func(s string) *big.Int {
		n, _ := new(big.Int).SetString(s, 16)
		return n
	}
	cut := func(n *big.Int) *big.Int { return n.Mod(n, new(big.Int).Lsh(big.NewInt(1), 64)) }
	turned := func(n *big.Int, by uint) *big.Int {
		return new(big.Int).Xor(n, new(big.Int).Quo(n, new(big.Int).Lsh(big.NewInt(1), by)))
	}
	a := turned(new(big.Int).SetUint64(v), 31)
	b := cut(a.Mul(a, number("9E3779B97F4A7C15")))
	c := turned(b, 29)
	d := cut(c.Mul(c, number("6A09E667F3BCC909")))
	return turned(d, 32).Uint64()
}

func plainMix(t api.TraceID) uint64 { return plainBlend(t.Hi + plainBlend(t.Lo)) }

// odds are numbers at the edges, and some others.
func odds() []uint64 {
	l := []uint64{0, 1, 2, 3, 7, math.MaxUint64, math.MaxUint64 - 1}
	for i := range 64 {
		l = append(l, 1<<i, 1<<i-1, 1<<i+1)
	}
	r := rand.New(rand.NewPCG(21, 1))
	for range 60 {
		l = append(l, r.Uint64(), r.Uint64()>>r.IntN(64))
	}
	return l
}

func TestMix(t *testing.T) {
	for _, c := range []struct{ hi, lo, want uint64 }{
		{0, 0, 0},
		{0, 1, 0xea3ff7c1cb69b7f2},
		{1, 0, 0x4a47868c6e690842},
		{0, 7, 0xdf215928e478faac},
		{1, 2, 0x638dbc3c5728f7ed},
		{2, 1, 0x88459f85abfe62c0},
		{0, math.MaxUint64, 0x2d078aa3d14bc901},
		{math.MaxUint64, math.MaxUint64, 0x7601ed300f06d993},
		{0x0123456789abcdef, 0xfedcba9876543210, 0x99aa42f56549a9c7},
	} {
		if got := sample.Mix(api.TraceID{Hi: c.hi, Lo: c.lo}); got != c.want {
			t.Errorf("Mix of %x/%x: %x, not %x", c.hi, c.lo, got, c.want)
		}
	}
	for _, hi := range odds() {
		for _, lo := range odds()[:60] {
			if name := (api.TraceID{Hi: hi, Lo: lo}); sample.Mix(name) != plainMix(name) {
				t.Errorf("Mix of %x/%x: %x, not %x", hi, lo, sample.Mix(name), plainMix(name))
			}
		}
	}
}

// TestOneToOne is P21.2: each number is the mix of a Hi, whatever the Lo, and of one alone.
func TestOneToOne(t *testing.T) {
	for _, lo := range odds() {
		his := map[uint64]uint64{}
		for _, mix := range odds() {
			name := mixed(mix, lo)
			if got := sample.Mix(name); got != mix {
				t.Fatalf("Mix of %x/%x: %x, not %x", name.Hi, lo, got, mix)
			}
			his[name.Hi] = mix
		}
		mixes := map[uint64]uint64{}
		for hi := range his {
			mixes[sample.Mix(api.TraceID{Hi: hi, Lo: lo})] = hi
		}
		for hi := range uint64(500) {
			if _, there := his[hi]; !there {
				his[hi] = 0
				mixes[sample.Mix(api.TraceID{Hi: hi, Lo: lo})] = hi
			}
		}
		if len(mixes) != len(his) {
			t.Errorf("of Lo %x %d Hi have %d mixes", lo, len(his), len(mixes))
		}
	}
}
