package batch_test

import (
	"encoding/binary"
	"reflect"
	"strings"
	"testing"

	"spoor/api"
)

// A piece of a batch's bytes, by the chapter's list: what it is, and which one.
type piece struct {
	kind string
	b    string
	of   int // the number of its span
	most int // of a number of a text or trace: how many the fields ahead speak of
	rows int // and how many there are
}

func uvar(n uint64) string { return string(binary.AppendUvarint(nil, n)) }

func ivar(n int64) string { return string(binary.AppendVarint(nil, n)) }

func big64(n uint64) string { return string(binary.BigEndian.AppendUint64(nil, n)) }

// speaker spells a batch: its tables are found first, by going through all fields.
type speaker struct {
	texts  numbered[string]
	traces numbered[api.TraceID]
	out    []piece
}

// numbered are things in the order in which they were met first; told: how many of them the fields speak of so far.
type numbered[T comparable] struct {
	rows    []T
	numbers map[T]int
	told    int
}

func (n *numbered[T]) meet(x T) {
	if _, ok := n.numbers[x]; !ok {
		n.numbers[x] = len(n.rows)
		n.rows = append(n.rows, x)
	}
}

func (n *numbered[T]) speak(of int, kind string, x T) piece {
	number := n.numbers[x]
	p := piece{kind: kind, b: uvar(uint64(number)), of: of, most: n.told, rows: len(n.rows)}
	n.told = max(n.told, number+1)
	return p
}

func (p *speaker) text(of int, s string) {
	p.out = append(p.out, p.texts.speak(of, "text number", s))
}

func (p *speaker) add(of int, kind, b string) {
	p.out = append(p.out, piece{kind: kind, b: b, of: of})
}

func textsOf(s api.Span) []string {
	l := []string{s.Service, s.Op}
	for _, a := range s.Attrs {
		l = append(l, a.Key)
		if a.Value.Kind == api.Text {
			l = append(l, a.Value.Text)
		}
	}
	for _, e := range s.Events {
		l = append(l, e.Name)
	}
	return l
}

func pieces(l []api.Span) []piece {
	p := &speaker{texts: numbered[string]{numbers: map[string]int{}}, traces: numbered[api.TraceID]{numbers: map[api.TraceID]int{}}}
	for _, s := range l {
		p.traces.meet(s.Trace)
		for _, x := range textsOf(s) {
			p.texts.meet(x)
		}
	}
	p.add(-1, "head", "SB\x01")
	p.add(-1, "texts", uvar(uint64(len(p.texts.rows))))
	for _, x := range p.texts.rows {
		p.add(-1, "text", uvar(uint64(len(x)))+x)
	}
	p.add(-1, "traces", uvar(uint64(len(p.traces.rows))))
	for _, x := range p.traces.rows {
		p.add(-1, "trace", big64(x.Hi)+big64(x.Lo))
	}
	p.add(-1, "spans", uvar(uint64(len(l))))
	start := int64(0)
	for i, s := range l {
		p.span(i, s, start)
		start = s.Start
	}
	return p.out
}

func (p *speaker) span(i int, s api.Span, ahead int64) {
	p.out = append(p.out, p.traces.speak(i, "trace number", s.Trace))
	p.add(i, "ID", big64(uint64(s.ID)))
	p.add(i, "Parent", big64(uint64(s.Parent)))
	p.text(i, s.Service)
	p.text(i, s.Op)
	p.add(i, "both", string([]byte{byte(int(s.Kind) + 8*int(s.Status))}))
	p.add(i, "Start", ivar(s.Start-ahead))
	p.add(i, "End", uvar(uint64(s.End-s.Start)))
	p.add(i, "links", uvar(uint64(len(s.Links))))
	for j, id := range s.Links {
		if j > 0 {
			id -= s.Links[j-1]
		}
		p.add(i, "link", uvar(uint64(id)))
	}
	p.add(i, "attrs", uvar(uint64(len(s.Attrs))))
	for _, a := range s.Attrs {
		p.text(i, a.Key)
		p.add(i, "value's kind", string([]byte{byte(a.Value.Kind)}))
		switch a.Value.Kind {
		case api.Text:
			p.text(i, a.Value.Text)
		case api.Int:
			p.add(i, "int", ivar(a.Value.Int))
		case api.Bool:
			p.add(i, "bool", string([]byte{byte(a.Value.Int)}))
		}
	}
	p.add(i, "events", uvar(uint64(len(s.Events))))
	for j, e := range s.Events {
		at := e.At
		if j > 0 {
			at -= s.Events[j-1].At
		}
		p.add(i, "At", uvar(uint64(at)))
		p.text(i, e.Name)
	}
}

func spelt(l []piece) string {
	var b strings.Builder
	for _, p := range l {
		b.WriteString(p.b)
	}
	return b.String()
}

func TestPiecesAreTheChapters(t *testing.T) {
	if got := spelt(pieces([]api.Span{spanS(), spanT()})); got != string(unhex(hexHead+hexS+hexT)) {
		t.Errorf("%x", got)
	}
	kinds := map[string]int{}
	for _, p := range pieces(rich()) {
		kinds[p.kind]++
	}
	want := map[string]int{
		"head": 1, "texts": 1, "text": 8, "traces": 1, "trace": 2, "spans": 1, "trace number": 2, "ID": 2, "Parent": 2, "text number": 10, "both": 2,
		"Start": 2, "End": 2, "links": 2, "link": 2, "attrs": 2, "value's kind": 3, "int": 1, "bool": 1, "events": 2, "At": 2,
	}
	if !reflect.DeepEqual(kinds, want) {
		t.Errorf("%v", kinds)
	}
}
