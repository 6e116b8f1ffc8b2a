package disk_test

import (
	"fmt"
	"math/rand/v2"
	"slices"
	"strings"
	"testing"

	"spoor/api"
	"spoor/disk"
)

// worn: a disk with which many calls were done, and which is on and not armed.
func worn(r *rand.Rand) *disk.Disk {
	d := disk.New()
	for range 5 + r.IntN(30) {
		aCall(r).disk(d)
		if d.Off() {
			d.Restart(d.Pending())
		}
	}
	d.Arm(0, api.Stop, 0)
	return d
}

// P7.1: what a file had at its Sync and what was named at SyncNames is there, whatever is kept, and whatever was written behind it.
func TestWhatLasts(t *testing.T) {
	r := rand.New(rand.NewPCG(7, 2))
	for range 3000 {
		d := worn(r)
		names, _ := d.Names()
		for _, name := range names {
			must(t, d.Sync(name))
		}
		must(t, d.SyncNames())
		want := map[string]string{}
		for _, name := range names {
			want[name] = text(d, name)
		}
		for _, name := range append(names, names...) {
			must(t, d.Append(name, []byte("more")))
		}
		d.Create("z")
		d.Append("z", []byte("new"))
		whole := map[string]string{}
		for _, name := range names {
			whole[name] = text(d, name)
		}
		d.Restart(aKeep(r))
		for _, name := range names {
			got := text(d, name)
			if !strings.HasPrefix(got, want[name]) || !strings.HasPrefix(whole[name], got) {
				t.Fatalf("%s: %q, which lasted as %q and was %q", name, got, want[name], whole[name])
			}
		}
		if l, _ := d.Names(); len(l) > len(names)+1 {
			t.Fatalf("names: %q, of %q", l, names)
		}
	}
}

// P7.2: Restart of Pending loses nothing; of the empty Keep it leaves what lasts.
func TestKeepAllAndNone(t *testing.T) {
	r := rand.New(rand.NewPCG(7, 3))
	for range 3000 {
		d := worn(r)
		was := all(d)
		kept := d.Copy()
		kept.Restart(kept.Pending())
		if got := all(kept); got != was {
			t.Fatalf("Restart of Pending: %q, not %q", got, was)
		}
		if k := kept.Pending(); k.Names != 0 || slices.Max(append(k.Data, 0)) != 0 {
			t.Fatalf("pending behind Restart: %v", k)
		}
		if got := restarted(kept, api.Keep{}); got != was {
			t.Fatalf("all that was kept lasts: %q, not %q", got, was)
		}
		none := d.Copy()
		none.Restart(api.Keep{})
		if got := restarted(none, keep(99, 99, 99, 99)); got != all(none) {
			t.Fatalf("all that is left lasts: %q, not %q", got, all(none))
		}
	}
}

// P7.3: of a file to which was appended alone the bytes are a beginning, and no fewer than the lasting ones; just as many as are kept.
func TestWholeBeginnings(t *testing.T) {
	r := rand.New(rand.NewPCG(7, 4))
	for range 500 {
		d := disk.New()
		must(t, d.Create("a"))
		must(t, d.SyncNames())
		lasting := strings.Repeat("l", r.IntN(5))
		must(t, d.Append("a", []byte(lasting)))
		must(t, d.Sync("a"))
		for range r.IntN(6) {
			b := make([]byte, r.IntN(4))
			for i := range b {
				b[i] = byte('a' + r.IntN(26))
			}
			must(t, d.Append("a", b))
		}
		was := text(d, "a")
		units := len(was) - len(lasting)
		seen(t, "Pending", pending(d), fmt.Sprint("0: ", units))
		for n := range units + 1 {
			seen(t, "a beginning", restarted(d, keep(0, n)), "a="+was[:len(lasting)+n])
		}
	}
}

// P7.4: a second Restart changes nothing.
func TestSecondRestart(t *testing.T) {
	r := rand.New(rand.NewPCG(7, 5))
	for range 3000 {
		d := worn(r)
		d.Restart(aKeep(r))
		was, steps := all(d), pending(d)
		d.Restart(aKeep(r))
		if all(d) != was || pending(d) != steps {
			t.Fatalf("a second Restart: %q, %s, not %q, %s", all(d), pending(d), was, steps)
		}
	}
}

// P7.5: a disk and its copy answer alike, as long as the same is done with them, and have nothing else to do with one another.
func TestCopies(t *testing.T) {
	r := rand.New(rand.NewPCG(7, 6))
	for range 2000 {
		d := disk.New()
		for range r.IntN(30) {
			aCall(r).disk(d)
		}
		still := d.Copy()
		was, steps, off := all(d), pending(d), d.Off()
		c := d.Copy()
		for range 20 {
			x := aCall(r)
			if a, b := x.disk(d), x.disk(c); a != b {
				t.Fatalf("%s: %v, its copy %v", x.what, a, b)
			}
			if all(d) != all(c) || pending(d) != pending(c) || d.Off() != c.Off() {
				t.Fatalf("%s: %q, its copy %q", x.what, all(d), all(c))
			}
		}
		if all(still) != was || pending(still) != steps || still.Off() != off {
			t.Fatalf("a copy that nothing was done with: %q, not %q", all(still), was)
		}
	}
}

// P7.6: whatever the changes are, the first n - 1 of them answer as those of a disk that is not armed, and the one behind these the error.
func TestArmedForTheNth(t *testing.T) {
	r := rand.New(rand.NewPCG(7, 7))
	for range 2000 {
		d := worn(r)
		free := d.Copy()
		n, how := 1+r.IntN(6), api.How(r.IntN(2))
		must(t, d.Arm(n, how, r.IntN(3)))
		for n > 0 {
			x := aCall(r)
			if strings.HasPrefix(x.what, "Arm") || strings.HasPrefix(x.what, "Restart") {
				continue
			}
			got, want := x.disk(d), x.disk(free)
			if want == api.OK && !strings.HasPrefix(x.what, "Flip") {
				n--
			}
			if n == 0 {
				want = []api.Errno{api.ErrDiskOff, api.ErrDiskFail}[how]
			}
			if got != want {
				t.Fatalf("%s, %d changes ahead: %v, not %v", x.what, n, got, want)
			}
			if n > 0 && (all(d) != all(free) || pending(d) != pending(free)) {
				t.Fatalf("%s, %d changes ahead: %q, not %q", x.what, n, all(d), all(free))
			}
		}
		if d.Off() != (how == api.Stop) {
			t.Fatalf("Off: %v", d.Off())
		}
	}
}
