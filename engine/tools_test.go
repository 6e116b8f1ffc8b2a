package engine_test

import (
	"bytes"
	"encoding/binary"
	"fmt"
	"strings"
	"testing"

	"spoor/api"
	"spoor/batch"
	"spoor/disk"
	"spoor/engine"
	"spoor/lang"
)

var small = api.Config{Segment: 64, Fan: 2, Workers: 2}

func lo(n uint64) api.TraceID { return api.TraceID{Lo: n} }

// one is a span of the trace 0/trace, without anything that need not be.
func one(trace uint64, id, parent api.SpanID, service string, start, end int64) api.Span {
	return api.Span{Trace: lo(trace), ID: id, Parent: parent, Service: service, Op: "do", Start: start, End: end}
}

// row is as many spans of a trace, from an ID on.
func row(trace uint64, from api.SpanID, n int) []api.Span {
	var l []api.Span
	for i := range n {
		l = append(l, one(trace, from+api.SpanID(i), 0, "a", 0, 9))
	}
	return l
}

func coded(t testing.TB, l ...api.Span) []byte {
	t.Helper()
	b, err := batch.Encode(l)
	if err != nil {
		t.Fatal(err)
	}
	return b
}

func opened(t testing.TB, d *disk.Disk, c api.Config) *engine.Engine {
	t.Helper()
	e, _, err := engine.Open(d, c)
	if e == nil || err != nil {
		t.Fatal("no engine:", err)
	}
	return e
}

// takes has an engine take a batch of these spans.
func takes(t testing.TB, e *engine.Engine, l ...api.Span) api.Ack {
	t.Helper()
	a, err := e.Ingest(coded(t, l...))
	if err != nil {
		t.Fatal(err)
	}
	return a
}

func ok(t testing.TB, what string, n api.Errno) {
	t.Helper()
	if n != api.OK {
		t.Fatalf("%s: %v", what, n)
	}
}

func parsed(t testing.TB, s string) api.Query {
	t.Helper()
	q, err := lang.Parse(s)
	if err != nil {
		t.Fatalf("%s: %v", s, err)
	}
	return q
}

// laid is numbers and texts one behind the other, as wire has them, by the library: an int64 may be below 0, all other numbers are not.
func laid(parts ...any) []byte {
	var b []byte
	for _, p := range parts {
		switch x := p.(type) {
		case int:
			b = binary.AppendUvarint(b, uint64(x))
		case uint64:
			b = binary.AppendUvarint(b, x)
		case api.Errno:
			b = binary.AppendUvarint(b, uint64(x))
		case api.SpanID:
			b = binary.AppendUvarint(b, uint64(x))
		case api.Origin:
			b = binary.AppendUvarint(b, uint64(x))
		case int64:
			b = binary.AppendVarint(b, x)
		case string:
			b = append(binary.AppendUvarint(b, uint64(len(x))), x...)
		case api.TraceID:
			b = append(b, laid(x.Hi, x.Lo)...)
		case api.Leg:
			b = append(b, laid(x.Owner, x.From, x.To)...)
		case []byte:
			b = append(b, x...)
		default:
			panic(fmt.Sprintf("%T", p))
		}
	}
	return b
}

func says(t testing.TB, e *engine.Engine, what string, request, want []byte) {
	t.Helper()
	if got := e.Ask(request); !bytes.Equal(got, want) {
		t.Fatalf("%s: Ask of %x: %x, not %x", what, request, got, want)
	}
}

// setOf is all spans of an engine, by what it answers.
func setOf(e *engine.Engine) string {
	var all strings.Builder
	after := api.TraceID{}
	for {
		r := bytes.NewReader(e.Ask(laid(10, after, 1000)))
		number := func() uint64 {
			v, err := binary.ReadUvarint(r)
			if err != nil {
				panic(err)
			}
			return v
		}
		if number() != 0 {
			panic("no traces")
		}
		n := number()
		if n == 0 {
			return all.String()
		}
		for range n {
			next := api.TraceID{Hi: number(), Lo: number()}
			if number(); order(after, next) >= 0 {
				panic("traces that do not rise")
			}
			after = next
			fmt.Fprintf(&all, "%v: %x\n", after, e.Ask(laid(1, after)))
		}
	}
}

// disked is all that is seen of a disk, and all that may outlast.
func disked(d *disk.Disk) string {
	var all strings.Builder
	fmt.Fprintln(&all, d.Off(), d.Pending())
	for _, c := range []*disk.Disk{kept(d, d.Pending()), kept(d, api.Keep{})} {
		names, _ := c.Names()
		for _, name := range names {
			n, _ := c.Size(name)
			b, _ := c.Read(name, 0, n)
			fmt.Fprintf(&all, "%s: %x\n", name, b)
		}
	}
	return all.String()
}

// kept is a disk as a loss of power leaves it.
func kept(d *disk.Disk, k api.Keep) *disk.Disk {
	c := d.Copy()
	c.Restart(k)
	return c
}

func sized(t testing.TB, d *disk.Disk) string {
	t.Helper()
	names, n := d.Names()
	ok(t, "Names", n)
	var l []string
	for _, name := range names {
		size, _ := d.Size(name)
		l = append(l, fmt.Sprint(name, ":", size))
	}
	return strings.Join(l, " ")
}
