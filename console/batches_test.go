package console_test

import (
	"testing"

	"spoor/api"
	"spoor/console"
)

func TestBatch(t *testing.T) {
	c := console.New()
	oks(t, c, "span a 7 1 0 a b 5 9", "span b 7 2 1 a a 3 4", "span bad 7 3 0 a b 9 5")
	a := api.Span{Trace: api.TraceID{Lo: 7}, ID: 1, Service: "a", Op: "b", Start: 5, End: 9}
	b := api.Span{Trace: api.TraceID{Lo: 7}, ID: 2, Parent: 1, Service: "a", Op: "a", Start: 3, End: 4}
	for _, x := range []struct {
		line string
		of   []api.Span
	}{{"batch x", nil}, {"batch x a", []api.Span{a}}, {"batch x b a", []api.Span{b, a}}, {"batch x a b a a", []api.Span{a, b, a, a}}} {
		if got, want := said(t, c, x.line), batched(t, x.of...); got != want {
			t.Errorf("%s: %s, not %s", x.line, got, want)
		}
	}
	// What is refused leaves the batch that there was.
	goes(t, c, `
> read x
4 spans
> batch x a bad b
fault 42 at 1
> batch x a b bad bad
fault 42 at 2
> read x
4 spans
> batch y bad
fault 42 at 0
> read y
error 242
> names
spans a b bad; batches x
> batch x
6 bytes 37a8c3cb
> read x
0 spans
`)
	oks(t, c, "span a 7 1 0 other other 5 9") // the batch is bytes: the span may become another one
	begins(t, c, "49 bytes", "batch x b")
	oks(t, c, "span b 0 0 0 other other 5 9")
	goes(t, c, "> read x\n1 spans")
}

// A span whose lists grow behind a batch is not seen in the batch, nor in the store.
func TestSpansGoOn(t *testing.T) {
	c := opened(t)
	oks(t, c, "span a 7 1 0 a b 5 9", "link a 2", "attr a k int 1", "event a 1 e")
	first := said(t, c, "batch x a")
	oks(t, c, "link a 3", "attr a l int 1", "event a 2 e")
	goes(t, c, "> read x\n1 spans\n> ingest x\nrecord 0 fresh 1 better 0 kept 0")
	trace := said(t, c, "trace 7")
	oks(t, c, "link a 4", "attr a m int 1", "event a 3 e")
	if got := said(t, c, "trace 7"); got != trace {
		t.Errorf("%s, not %s", got, trace)
	}
	oks(t, c, "span a 7 1 0 a b 5 9", "link a 2", "attr a k int 1", "event a 1 e")
	if got := said(t, c, "batch x a"); got != first {
		t.Errorf("%s, not %s", got, first)
	}
}

func TestSpoil(t *testing.T) {
	goes(t, console.New(), `
> batch x
6 bytes 37a8c3cb
> spoil x 6 00
error 74
> spoil x 5 0000
error 74
> spoil x 7 00
error 74
> spoil x 9223372036854775807 00
error 74
> read x
0 spans
> spoil x 5 01
ok
> read x
fault 11 at 6
> spoil x 3 000000
ok
> read x
0 spans
> spoil x 0 ffff
ok
> read x
fault 52 at 0
> spoil x 0 534201000005
ok
> read x
fault 11 at 6
> spoil x 0 53420100000000
error 74
> spoil x 0 534201000000
ok
> read x
0 spans
> spoil y 0 00
error 242
`)
}

// T2: a batch that is cut, spoilt or out of its form is told with its place.
func TestReadTells(t *testing.T) {
	goes(t, console.New(), `
> span a 7 1 0 a b 5 9
ok
> batch x a
51 bytes aea3a4fc
> read x
1 spans
> spoil x 4 8000
ok
> read x
fault 12 at 4
> batch x a
51 bytes aea3a4fc
> spoil x 7 61
ok
> read x
fault 54 at 6
> batch x a
51 bytes aea3a4fc
> spoil x 34 00
ok
> read x
fault 41 at 26
> batch x a
51 bytes aea3a4fc
> spoil x 25 f503
ok
> read x
fault 53 at 25
`)
}
