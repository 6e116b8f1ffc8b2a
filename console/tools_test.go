package console_test

import (
	"fmt"
	"strings"
	"testing"

	"spoor/api"
	"spoor/console"
)

// said is what a line is answered; of an error `error N`, as in a script.
func said(t testing.TB, c *console.Console, line string) string {
	t.Helper()
	answer, why := c.Do(line)
	if why == api.OK {
		return answer
	}
	if answer != "" {
		t.Errorf("%q: %q beside the error %d", line, answer, int(why))
	}
	return fmt.Sprint("error ", int(why))
}

// goes holds a console against a transcript: each line stands behind `> `, and what it is answered beneath it; nothing, if that is empty.
func goes(t testing.TB, c *console.Console, transcript string) {
	t.Helper()
	for _, part := range strings.Split("\n"+strings.Trim(transcript, "\n"), "\n> ")[1:] {
		line, want, _ := strings.Cut(part, "\n")
		if got := said(t, c, line); got != want {
			t.Errorf("%q: %q, not %q", line, got, want)
		}
	}
}

// oks does lines that are all answered `ok`.
func oks(t testing.TB, c *console.Console, lines ...string) {
	t.Helper()
	for _, line := range lines {
		if got := said(t, c, line); got != "ok" {
			t.Fatalf("%q: %q", line, got)
		}
	}
}

// does does lines none of which is refused.
func does(t testing.TB, c *console.Console, lines ...string) {
	t.Helper()
	for _, line := range lines {
		if got := said(t, c, line); refused(got) {
			t.Fatalf("%q: %q", line, got)
		}
	}
}

func refused(answer string) bool {
	first, _, _ := strings.Cut(answer, " ")
	return first == "error" || first == "fault" || first == "file" || first == "refused"
}

// begins does lines whose answers begin as it is said.
func begins(t testing.TB, c *console.Console, with string, lines ...string) {
	t.Helper()
	for _, line := range lines {
		if got := said(t, c, line); !strings.HasPrefix(got, with) {
			t.Fatalf("%q: %q", line, got)
		}
	}
}

// opened is a console with an engine.
func opened(t testing.TB) *console.Console {
	t.Helper()
	c := console.New()
	begins(t, c, "segments 1 first 0 next 0 torn 0", "open 64 2 2")
	return c
}

// stocked is one whose engine has the trace 7 of DOC.md's examples; it lasts.
func stocked(t testing.TB) *console.Console {
	t.Helper()
	c := opened(t)
	oks(t, c, "span web 7 1 0 web get 0 100", "span db 7 2 1 db query 10 60", "span log 7 3 1 log write 40 90")
	begins(t, c, "124 bytes", "batch x web db log")
	begins(t, c, "record 0 fresh 3", "ingest x")
	oks(t, c, "flush")
	return c
}
