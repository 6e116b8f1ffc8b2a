package console_test

import (
	"fmt"
	"math/rand/v2"
	"runtime"
	"slices"
	"strings"
	"testing"
	"unsafe"

	"spoor/api"
	"spoor/console"
)

// text is bytes as a text, which changes when they do.
func text(b []byte) string { return unsafe.String(unsafe.SliceData(b), len(b)) }

// P3: nothing of a line is kept: whoever hands it in may write into its bytes then; and no answer is a piece of it.
func TestLinesAreNotKept(t *testing.T) {
	for seed := range uint64(200) {
		w := writer{rand.New(rand.NewPCG(31, seed))}
		c, p := console.New(), newPlain()
		var answers, wants []string
		for i := range 60 {
			line := w.marred(w.line())
			if i == 0 {
				line = "open 64 2 2"
			}
			b := []byte(line)
			got, why := c.Do(text(b))
			for i := range b {
				b[i] = '~'
			}
			want, reason := p.do(line)
			answers, wants = append(answers, got), append(wants, want)
			if why != reason || !slices.Equal(answers, wants) {
				t.Fatalf("seed %d: %q: %q, %d; not %q, %d", seed, line, answers, int(why), wants, int(reason))
			}
		}
		want, _ := p.do("names")
		goes(t, c, "> names\n"+want)
	}
}

// Each text that a line puts down is the console's own.
func TestEachTextIsItsOwn(t *testing.T) {
	c := console.New()
	do := func(line string) {
		b := []byte(line)
		if answer, why := c.Do(text(b)); why != api.OK || refused(answer) {
			t.Fatal(line, answer, why)
		}
		clear(b)
	}
	do("span a 7 1 0 web get 10 30")
	do("attr a k text single")
	do("attr a l text so it is")
	do("event a 11 single")
	do("event a 12 so it is")
	do("policy 3 0 web 0")
	do("batch x a")
	do("open 64 2 2")
	do(`watch 9 {service = "web" and .k = "single"}`)
	do("ingest x")
	goes(t, c, `
> check a
ok
> names
spans a; batches x
> verdict a
1 policy 0 weight 0.65536
> take 0 9
lost 0: 0.7.1
> find 0 {service = "web" and op = "get" and .k = "single" and .l = "so it is" and events = 2}
1 0 7 1
`)
	script := []byte("span a 7 1 0 web get 10 30\nnames\nprint {}")
	got, _, _ := console.Run(text(script))
	clear(script)
	if want := "ok\nspans a; batches\n{}\n"; got != want {
		t.Errorf("%q, not %q", got, want)
	}
}

// P1: whatever bytes a line has, Do ends, and tells an answer or one of the errors.
func TestAnyBytes(t *testing.T) {
	w := writer{rand.New(rand.NewPCG(32, 32))}
	for range 300 {
		c := stocked(t)
		for range 100 {
			b := []byte(w.line())
			for range w.IntN(4) {
				b[w.IntN(len(b))] = byte(w.IntN(256))
			}
			answer, why := c.Do(string(b))
			if why != api.OK && answer != "" || why < 0 || strings.Contains(answer, "\n") {
				t.Fatalf("%q: %q %d", b, answer, int(why))
			}
		}
		b := make([]byte, w.IntN(400))
		for i := range b {
			b[i] = byte(w.IntN(256))
		}
		c.Do(string(b))
		console.Run(string(b))
	}
}

// P4: goroutines that a line starts have ended when it is answered.
func TestNoGoroutineIsLeft(t *testing.T) {
	c := stocked(t)
	before := runtime.NumGoroutine()
	for i := range 200 {
		does(t, c, "find 0 {}", "open 64 2 16", "watch 9 {}", "ingest x", "find 99 {} >> {}")
		said(t, c, fmt.Sprint("find ", i, " {}"))
	}
	if after := runtime.NumGoroutine(); after > before {
		t.Errorf("%d goroutines, and %d before", after, before)
	}
}

// C3: a script is answered alike each time.
func TestScriptsAgain(t *testing.T) {
	for seed := range uint64(30) {
		w := writer{rand.New(rand.NewPCG(33, seed))}
		var script strings.Builder
		script.WriteString("open 64 2 16\n")
		for range 150 {
			script.WriteString(strings.ReplaceAll(w.line(), "\n", " ") + "\n")
		}
		want, lines, _ := console.Run(script.String())
		for range 3 {
			if got, n, why := console.Run(script.String()); got != want || n != lines || why != api.OK {
				t.Fatalf("seed %d: %q, not %q", seed, got, want)
			}
		}
	}
}
