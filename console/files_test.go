package console_test

import (
	"fmt"
	"strings"
	"testing"

	"spoor/console"
)

func TestPendingAndFiles(t *testing.T) {
	goes(t, console.New(), "> pending\n0\n> files\n\n> power 0\nok\n> pending\n0")
	goes(t, stocked(t), `
> pending
0 0
> files
seg-0000000000:180
> ingest x
record 1 fresh 0 better 0 kept 3
> pending
0 0 148
> files
seg-0000000000:180 seg-0000000001:180
> flush
ok
> pending
0 0 0
> arm 2 fail 0
ok
> checkpoint
error 76
> pending
0 0 0
> arm 3 fail 10
ok
> checkpoint
error 76
> pending
1 0 0 10
> files
blk.tmp:10 seg-0000000000:180 seg-0000000001:180
> checkpoint
ok
> pending
0 0 0 0 0
> files
blk-00000000000000000002:212 seg-0000000001:180
`)
}

// arm: in the change of that number so many units are done, and the power goes, or stays on.
func TestArm(t *testing.T) {
	for _, how := range []string{"stop", "fail"} {
		c := opened(t)
		begins(t, c, "6 bytes", "batch x")
		oks(t, c, fmt.Sprint("arm 2 ", how, " 7"))
		goes(t, c, "> ingest x\nrecord 0 fresh 0 better 0 kept 0")
		if how == "stop" {
			goes(t, c, `
> flush
error 75
> pending
0 0
> files
error 75
> bytes seg-0000000000 0 1
error 75
> flip seg-0000000000 0 1
error 75
> arm 0 stop 0
error 75
> open 64 2 2
file  error 75 at 0
> sick
error 242
> power 0
ok
> open 64 2 2
segments 1 first 0 next 1 torn 0
`)
		} else {
			goes(t, c, `
> flush
error 76
> sick
1
> files
seg-0000000000:62
> arm 9 stop 0
ok
> arm 0 fail 9223372036854775807
ok
> power 1 1
ok
> arm 9223372036854775807 stop 9223372036854775807
ok
`)
		}
	}
}

// An Append that is done in part, of which a part outlasts.
func TestPower(t *testing.T) {
	torn := func(keep, open, files string) {
		t.Helper()
		c := opened(t)
		begins(t, c, "6 bytes", "batch x")
		oks(t, c, "arm 1 stop 20")
		goes(t, c, fmt.Sprintf("> ingest x\nrefused 75\n> pending\n0 20\n> power %s\nok\n> files\n%s\n> stats\nerror 242\n> open 64 2 2\n%s\n> pending\n0 0", keep, files, open))
	}
	torn("0", "segments 1 first 0 next 0 torn 0", "seg-0000000000:32")
	torn("0 0", "segments 1 first 0 next 0 torn 0", "seg-0000000000:32")
	torn("0 7", "segments 1 first 0 next 0 torn 7", "seg-0000000000:39")
	torn("9 20", "segments 1 first 0 next 0 torn 20", "seg-0000000000:52")
	torn("9223372036854775807 9223372036854775807 1", "segments 1 first 0 next 0 torn 20", "seg-0000000000:52")
	// Names that do not last yet: as many as are kept.
	for n, files := range []string{"", "seg-0000000000:0"} {
		c := console.New()
		oks(t, c, "arm 3 stop 0")
		goes(t, c, fmt.Sprintf("> open 64 2 2\nfile seg-0000000000 error 75 at 0\n> pending\n1 32\n> power %d\nok\n> files\n%s", n, files))
	}
	// Where nothing was armed nothing changes but that there is no engine.
	c := stocked(t)
	goes(t, c, "> power 0\nok\n> flush\nerror 242\n> files\nseg-0000000000:180\n> open 64 2 2\nsegments 1 first 0 next 1 torn 0\n> stats\n3 1 0 1")
}

func TestBytes(t *testing.T) {
	// A journal's head: a frame of kind 1, whose payload is the number 0.
	goes(t, opened(t), "> bytes seg-0000000000 0 16\n53505201000000000000000000000008\n> bytes seg-0000000000 24 8\n0000000000000000")
	c := stocked(t)
	all := said(t, c, "bytes seg-0000000000 0 180")
	if len(all) != 360 || !strings.HasPrefix(all, "535052010000000000000000") || strings.Trim(all, "0123456789abcdef") != "" {
		t.Fatal(all)
	}
	for at := range 181 {
		for _, n := range []int{0, 1, 2, 179, 180, 181} {
			want := "error 74"
			if at+n <= 180 {
				want = all[2*at : 2*(at+n)]
			}
			if got := said(t, c, fmt.Sprintf("bytes seg-0000000000 %d %d", at, n)); got != want {
				t.Errorf("%d %d: %s, not %s", at, n, got, want)
			}
		}
	}
	goes(t, c, `
> bytes seg-0000000000 181 0
error 74
> bytes seg-0000000000 9223372036854775807 9223372036854775807
error 74
> bytes seg-0000000001 0 0
error 72
> bytes A 0 0
error 71
> bytes # 0 0
error 71
> bytes a123456789a123456789a123456789a1234567890 0 0
error 71
> bytes a123456789a123456789a123456789a123456789 0 0
error 72
`)
}

// flip: what it does with a byte, and that the engine goes only with it.
func TestFlip(t *testing.T) {
	c := stocked(t)
	goes(t, c, `
> flip seg-0000000000 180 1
error 74
> flip seg-0000000001 0 1
error 72
> flip Seg 0 1
error 71
> stats
3 1 0 1
> bytes seg-0000000000 56 3
534201
> flip seg-0000000000 57 255
ok
> bytes seg-0000000000 56 3
53bd01
> stats
error 242
> open 64 2 2
file seg-0000000000 error 81 at 32
> stats
error 242
> flip seg-0000000000 57 254
ok
> open 64 2 2
file seg-0000000000 error 81 at 32
> flip seg-0000000000 57 1
ok
> open 64 2 2
segments 1 first 0 next 1 torn 0
> flip seg-0000000000 57 0
ok
> stats
error 242
> open 64 2 2
segments 1 first 0 next 1 torn 0
`)
}
