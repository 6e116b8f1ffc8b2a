package console_test

import (
	"fmt"
	"math/rand/v2"
	"strings"
	"testing"

	"spoor/api"
	"spoor/console"
)

// writer draws lines: most of them of the table, and of few names, numbers and texts, so that they meet.
type writer struct{ *rand.Rand }

func (w writer) of(l ...string) string { return l[w.IntN(len(l))] }

func (w writer) small() string { return fmt.Sprint(w.IntN(5)) }

// moment lies in the hours 0 to 3.
func (w writer) moment() int64 { return hour(w.Int64N(4), w.Int64N(60)) }

func (w writer) span() string { return w.of("a", "b", "c", "d", "e", "f") }

func (w writer) batch() string { return w.of("x", "y", "z", "a") }

func (w writer) file() string {
	return w.of("seg-0000000000", "seg-0000000000", "seg-0000000001", "seg-0000000002", "blk-00000000000000000001", "blk-00000000000000000002", "blk.tmp", "none", "Bad")
}

func (w writer) query() string {
	return w.of(`{}`, `{service = "db"}`, `{service="web"} > {dur > 5ns}`, `{leaf = true} || {.k = 3}`, `{status = failed} | top 1 by dur`, `{} | count > 2`, `{kind = client and .t =~ "so *"}`, `{`, `{a}`, `{} } `, `{dur = "x"}`, "{service = \"\xff\"}", `{service="db"} >> {} && {links > 0}`)
}

// line draws one.
func (w writer) line() string {
	trace, root := w.of("7", "8", "8", "9"), w.of("1", "1", "2", "3", "4", "0")
	start := w.moment()
	end := start + w.Int64N(100) - 2
	from := w.IntN(4)
	to := fmt.Sprint(from + w.IntN(4) - 1)
	if to == "-1" {
		to = "2097153"
	}
	hours := fmt.Sprint(from, " ", to)
	switch w.IntN(48) {
	case 0, 1, 2, 3, 4, 5:
		return fmt.Sprintf("span %s %s %s %s %s %s %d %d", w.span(), trace, w.of("1", "2", "3", "4", "0"), w.small(), w.of("web", "db", "log"), w.of("get", "put"), start, end)
	case 6:
		return fmt.Sprint(w.of("kind ", "status "), w.span(), " ", w.of("0", "1", "2", "2", "3", "9"))
	case 7:
		return fmt.Sprint("link ", w.span(), " ", w.small())
	case 8:
		return fmt.Sprint("attr ", w.span(), " ", w.of("k int 3", "k int 4", "t text so  it is", "z bool 1", "z bool 2", "K int 3", "k text", "z real 1"))
	case 9:
		return fmt.Sprint("event ", w.span(), " ", w.of("3 on", "4 off  and on", "3", "x y"))
	case 10:
		return "check " + w.span()
	case 11, 12, 13, 14, 15, 16:
		line := "batch " + w.batch()
		for range w.IntN(5) {
			line += " " + w.span()
		}
		return line
	case 17:
		return fmt.Sprint("spoil ", w.batch(), " ", w.of("0 53", "2 01", "3 02", "40 00", "9999 00", "25 ff", "5 zz", "5 0"))
	case 18:
		return "read " + w.batch()
	case 19, 20:
		return w.of("open 64 2 2", "open 100 3 1", "open 1000 16 4", "open 64 2 2", "open 63 2 2", "open 64 2 17")
	case 21, 22, 23, 24, 25, 26:
		return "ingest " + w.batch()
	case 27:
		return w.of("flush", "flush", "checkpoint", "sick")
	case 28:
		return fmt.Sprint("arm ", w.IntN(9), " ", w.of("stop", "fail", "fail"), " ", w.of("0", "1", "10", "1000"))
	case 29:
		return fmt.Sprint("power ", w.small(), w.of("", " 0 9", " 30 30 30", " 1000 1000 1000 1000 1000 1000"))
	case 30:
		return w.of("pending", "files", "names", "stats")
	case 31:
		return fmt.Sprint("bytes ", w.file(), " ", w.of("0 32", "0 0", "32 50", "9999 1"))
	case 32:
		if w.IntN(4) > 0 {
			return "files"
		}
		return fmt.Sprint("flip ", w.file(), " ", w.of("0", "30", "60", "9999"), " ", w.of("0", "1", "255", "256"))
	case 33, 34:
		return fmt.Sprint(w.of("trace ", "forest ", "own ", "chain "), trace)
	case 35, 36, 46, 47:
		return fmt.Sprint(w.of("path ", "services "), trace, " ", root)
	case 37:
		return w.of("deps ", "windows ") + hours
	case 38:
		return fmt.Sprint("top ", hours, " ", w.of("0", "1", "2", "3"), " ", w.of("0", "1", "9", "1001"))
	case 39:
		return fmt.Sprint("traces ", w.of("0", "7", "8", "100"), " ", w.of("0", "1", "9"))
	case 40:
		return fmt.Sprint("find ", w.of("0", "0", "1", "5", "50"), " ", w.query())
	case 41:
		return w.of("plan ", "print ") + w.query()
	case 42:
		return fmt.Sprint("watch ", w.of("1", "2", "50", "50", "0", "1001"), " ", w.query())
	case 43:
		return fmt.Sprint(w.of("take ", "take ", "unwatch "), w.of("0", "0 1", "0 9", "1 9", "0", "1", "0 0"))
	case 44:
		return fmt.Sprint("policy ", w.of("0 0 - 0", "1 0 - 0", "2 9 - 0", "3 0 db 0", "3 0 - 0", "4 0 - 30000", "4 0 - 70000", "5 0 - 0"))
	}
	return fmt.Sprint(w.of("verdict ", "verdict ", "ask "), w.of("a", "a b", "b", "c d", "0b", "0100", "020007", "03"))
}

// marred is a line that may be none any more.
func (w writer) marred(line string) string {
	fields := strings.Split(line, " ")
	at := w.IntN(len(fields))
	switch w.IntN(40) {
	case 0:
		fields[at] = w.of("", "0", "x", "-1", "01", "A", "\xff", "#", "a\n", "9223372036854775807", "9223372036854775808", strings.Repeat("k", 17))
	case 1:
		fields = append(fields[:at], fields[at+1:]...)
	case 2:
		fields = append(fields, w.of("", "0", "a"))
	case 3:
		fields[at] = " " + fields[at]
	case 4:
		fields[0] = w.of("#", "# ", "Stats", "") + fields[0]
	}
	return strings.Join(fields, " ")
}

// C1, C3: random lines, one behind the other, are answered as the plain console does them; and as one script they are answered alike.
func TestAgainstPlain(t *testing.T) {
	seen := map[string]int{}
	for seed := range uint64(2000) {
		w := writer{rand.New(rand.NewPCG(24, seed))}
		c, p := console.New(), newPlain()
		var script, answers strings.Builder
		for i := range 120 {
			line := w.marred(w.line())
			if i == 0 {
				line = "open 64 2 2"
			}
			got, why := c.Do(line)
			want, reason := p.do(line)
			if got != want || why != reason {
				t.Fatalf("seed %d: %s\n%q: %q, %d; not %q, %d", seed, script.String(), line, got, int(why), want, int(reason))
			}
			note(seen, line, got, why)
			if strings.Contains(line, "\n") {
				continue // no line of a script has it
			}
			fmt.Fprintln(&script, line)
			if why != api.OK {
				fmt.Fprintln(&answers, "error", int(why))
			} else if got != "" {
				fmt.Fprintln(&answers, got)
			}
		}
		if got, _, why := console.Run(script.String()); got != answers.String() || why != api.OK {
			t.Fatalf("seed %d: %s\n%q, %d; not %q", seed, script.String(), got, int(why), answers.String())
		}
	}
	for _, shape := range shapes() {
		if command, _, _ := strings.Cut(shape, " "); seen[command] < 10 {
			t.Errorf("%s was done only %d times", command, seen[command])
		}
	}
}

// note counts how often a command did something.
func note(seen map[string]int, line, answer string, why api.Errno) {
	if why == api.OK && answer != "" && !refused(answer) {
		seen[strings.Fields(line)[0]]++
	}
}
