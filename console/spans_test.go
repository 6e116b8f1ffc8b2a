package console_test

import (
	"fmt"
	"hash/crc32"
	"strings"
	"testing"

	"spoor/api"
	"spoor/batch"
	"spoor/console"
)

// batched is what `batch` answers of spans.
func batched(t *testing.T, l ...api.Span) string {
	t.Helper()
	b, err := batch.Encode(l)
	if err != nil {
		t.Fatal(err)
	}
	return fmt.Sprintf("%d bytes %08x", len(b), crc32.Checksum(b, crc32.MakeTable(crc32.Castagnoli)))
}

// All fields of a span: a batch of it has the bytes that batch makes of it.
func TestSpanFieldByField(t *testing.T) {
	c := console.New()
	s := api.Span{Trace: api.TraceID{Lo: 1<<63 - 1}, ID: 1<<63 - 2, Parent: 1<<63 - 3, Service: "#web", Op: "\"get\"", Start: 3, End: 1 << 62}
	holds := func(line string) {
		t.Helper()
		oks(t, c, line)
		if got, want := said(t, c, "batch b s"), batched(t, s); got != want {
			t.Errorf("%q: %s, not %s", line, got, want)
		}
	}
	holds("span s 9223372036854775807 9223372036854775806 9223372036854775805 #web \"get\" 3 4611686018427387904")
	s.Kind = api.Consumer
	holds("kind s 4")
	s.Status = api.Failed
	holds("status s 2")
	s.Links = []api.SpanID{5}
	holds("link s 5")
	s.Links = append(s.Links, 1<<63-1)
	holds("link s 9223372036854775807")
	s.Attrs = []api.Attr{{Key: "a", Value: api.Value{Text: "so it # is"}}}
	holds("attr s a text   so it  #   is ")
	s.Attrs = append(s.Attrs, api.Attr{Key: "b", Value: api.Value{Kind: api.Int, Int: 1<<63 - 1}})
	holds("attr s b int 9223372036854775807")
	s.Attrs = append(s.Attrs, api.Attr{Key: "c", Value: api.Value{Kind: api.Bool, Int: 1}})
	holds("attr s c bool 1")
	s.Attrs = append(s.Attrs, api.Attr{Key: "d", Value: api.Value{Kind: api.Bool}})
	holds("attr s d bool 0")
	s.Events = []api.Event{{At: 0, Name: "go on"}}
	holds("event s 0 go   on")
	s.Events = append(s.Events, api.Event{At: 1 << 62, Name: "end"})
	holds("event s 4611686018427387904 end")
	s.Kind, s.Status = api.Internal, api.Unset
	oks(t, c, "kind s 0")
	holds("status s 0")
	s = api.Span{Trace: api.TraceID{Lo: 1}, ID: 2, Service: "a", Op: "b"}
	holds("span s 1 2 0 a b 0 0") // a new thing, with nothing else in it
}

// What may not be in a span is put in all the same; check tells.
func TestCheck(t *testing.T) {
	goes(t, console.New(), `
> span a 0 1 0 web get 10 30
ok
> check a
error 41
> span a 7 0 0 web get 10 30
ok
> check a
error 41
> span a 7 1 0 web get 31 30
ok
> check a
error 42
> span a 7 1 0 web get 0 4611686018427387905
ok
> check a
error 42
> span a 7 1 1 web get 0 4611686018427387904
ok
> check a
ok
> kind a 5
ok
> check a
error 44
> kind a 4
ok
> check a
ok
> status a 3
ok
> check a
error 44
> status a 255
ok
> status a 2
ok
> link a 0
ok
> check a
error 45
> span a 7 1 1 web get 0 1
ok
> link a 3
ok
> check a
ok
> link a 3
ok
> check a
error 45
> span a 7 1 1 web get 0 1
ok
> attr a K int 1
ok
> check a
error 46
> span a 7 1 1 web get 0 1
ok
> attr a k int 1
ok
> check a
ok
> attr a b int 1
ok
> check a
error 46
> span a 7 1 1 web get 0 1
ok
> event a 5 b
ok
> check a
ok
> event a 5 a
ok
> check a
error 47
> check b
error 242
`)
	c := console.New()
	for _, x := range [][2]string{{strings.Repeat("s", 60), "ok"}, {strings.Repeat("s", 61), "error 43"}, {"\xff", "error 43"}, {"\x7f", "error 43"}} {
		oks(t, c, "span a 7 1 0 "+x[0]+" get 1 2")
		if got := said(t, c, "check a"); got != x[1] {
			t.Errorf("%q: %s", x[0], got)
		}
	}
}

// There is room for 16 spans, and for 16 batches besides; a name that is there may be put again.
func TestRoom(t *testing.T) {
	c := console.New()
	for i := range 16 {
		oks(t, c, fmt.Sprintf("span s%d 7 %d 0 web get 10 30", i, i+1))
		begins(t, c, "6 bytes", fmt.Sprintf("batch s%d", i))
	}
	goes(t, c, `
> span more 7 1 0 web get 10 30
error 242
> batch more
error 242
> batch more s0
error 242
> check more
error 242
> read more
error 242
> span s15 0 1 0 web get 10 30
ok
> check s15
error 41
> batch s15 s0
55 bytes b3dc3dc9
> read s15
1 spans
> names
spans s0 s1 s10 s11 s12 s13 s14 s15 s2 s3 s4 s5 s6 s7 s8 s9; batches s0 s1 s10 s11 s12 s13 s14 s15 s2 s3 s4 s5 s6 s7 s8 s9
`)
}

// Names of spans have nothing to do with those of batches, and rise.
func TestNames(t *testing.T) {
	goes(t, console.New(), `
> names
spans; batches
> span z 7 1 0 web get 10 30
ok
> names
spans z; batches
> check z
ok
> read z
error 242
> spoil z 0 00
error 242
> batch a
6 bytes 37a8c3cb
> names
spans z; batches a
> kind a 1
error 242
> status a 1
error 242
> link a 1
error 242
> attr a k int 1
error 242
> event a 1 x
error 242
> check a
error 242
> verdict a
error 242
> batch z a
error 242
> batch b z a
error 242
> span b 7 1 0 web get 10 30
ok
> span b- 7 1 0 web get 10 30
ok
> span b0 7 1 0 web get 10 30
ok
> span a1 7 1 0 web get 10 30
ok
> span aa 7 1 0 web get 10 30
ok
> names
spans a1 aa b b- b0 z; batches a
`)
}
