package console_test

import (
	"strings"
	"testing"

	"spoor/api"
	"spoor/console"
)

// runs holds a script's answer, and how many lines it has.
func runs(t *testing.T, script, want string, lines int) {
	t.Helper()
	got, n, why := console.Run(script)
	if got != want || n != lines || why != api.OK {
		t.Errorf("%.60q: %.200q, %d, %d; not %.200q, %d", script, got, n, int(why), want, lines)
	}
}

func TestRunTells(t *testing.T) {
	runs(t, "open 64 2 2\n\nstats\nnothing", "segments 1 first 0 next 0 torn 0\n0 0 0 0\nerror 241\n", 4)
	runs(t, "stats\nstats\n", "error 242\nerror 242\n", 2)
	runs(t, "span a 7 1 0 web get 10 30\ncheck a\n# nothing\nfiles\nnames", "ok\nok\nspans a; batches\n", 5) // no file: an empty answer
	runs(t, "print {\nprint {}\r\n", "fault 163 at 1\n{}\n", 2)                                              // 13 is a blank of the query's, not of the line's
	runs(t, "names\r", "error 241\n", 1)
	runs(t, strings.Repeat("x", 301)+"\n#"+strings.Repeat("x", 300)+"\nnames", "error 243\nerror 243\nspans; batches\n", 3)
	runs(t, "batch b\nfault", "6 bytes 37a8c3cb\nerror 241\n", 2)
}

func TestRunCountsLines(t *testing.T) {
	runs(t, "", "", 1)
	runs(t, "\n", "", 1)
	runs(t, " ", "", 1)
	runs(t, "\n\n", "", 2)
	runs(t, "\n ", "", 2)
	runs(t, "#\n#", "", 2)
	runs(t, "#\n#\n", "", 2)
	runs(t, strings.Repeat("\n", 300), "", 300)
	runs(t, strings.Repeat("\n", 299), "", 299)
	runs(t, strings.Repeat("\n", 299)+"#", "", 300)
	runs(t, strings.Repeat("names\n", 300), strings.Repeat("spans; batches\n", 300), 300)
}

func TestRunTooLong(t *testing.T) {
	refused := func(script string) {
		t.Helper()
		if got, n, why := console.Run(script); got != "" || n != 0 || why != api.ErrConsoleLong {
			t.Errorf("%.60q: %q %d %d", script, got, n, int(why))
		}
	}
	refused(strings.Repeat("\n", 301))
	refused(strings.Repeat("\n", 300) + "#")
	refused(strings.Repeat("names\n", 301))
	refused(strings.Repeat("x", 20001))
	refused(strings.Repeat(" ", 20001))
	refused("names\n" + strings.Repeat(strings.Repeat(" ", 199)+"\n", 100))
	runs(t, strings.Repeat("x", 20000), "error 243\n", 1)
	runs(t, "names"+strings.Repeat(strings.Repeat(" ", 198)+"\n", 100)+strings.Repeat(" ", 95), "spans; batches\n", 101) // 20000 bytes
	runs(t, strings.Repeat(strings.Repeat("é", 99)+" \n", 100), strings.Repeat("error 241\n", 100), 100)                 // 20000 bytes
}

// Each script has a console of its own, and consoles have nothing to do with one another.
func TestConsolesApart(t *testing.T) {
	one, other := console.New(), console.New()
	oks(t, one, "span a 7 1 0 web get 10 30", "policy 0 0 - 0")
	does(t, one, "batch b a", "open 64 2 2", "ingest b")
	goes(t, other, "> names\nspans; batches\n> stats\nerror 242\n> files\n")
	runs(t, "names\nfiles\nstats", "spans; batches\nerror 242\n", 3)
	oks(t, other, "span a 7 2 0 web get 10 30")
	goes(t, other, "> verdict a\n0 policy -1 weight 0.0")
	goes(t, one, "> verdict a\n1 policy 0 weight 0.65536\n> traces 0 9\n1 0 7 1\n> files\nseg-0000000000:111")
}
