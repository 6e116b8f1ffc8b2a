package batch

import (
	"spoor/api"
	"spoor/span"
	"spoor/wire"
)

// laid are the bytes of a list of spans.
func laid(l []api.Span) []byte {
	if len(l) > api.MaxBatchSpans {
		giveUp(api.MaxBatchSpans, api.ErrBatchMany)
	}
	for i, s := range l {
		if e := span.Check(s); e != api.OK {
			giveUp(i, e)
		}
	}
	f := &fieldWriter{Writer: wire.NewWriter(), texts: newTable[string](), traces: newTable[api.TraceID]()}
	for _, s := range l {
		f.span(s)
	}
	b := f.whole(len(l))
	if len(b) > api.MaxBatch {
		giveUp(0, api.ErrBatchLong)
	}
	return b
}

// fieldWriter lays the spans' fields down. The tables stand ahead of them, but are whole only when all fields have been gone through, so these lie apart till then.
type fieldWriter struct {
	*wire.Writer
	texts  *table[string]
	traces *table[api.TraceID]
	start  int64 // of the span ahead
}

func (f *fieldWriter) whole(spans int) []byte {
	w := wire.NewWriter()
	w.Raw([]byte(head))
	w.Uint(uint64(len(f.texts.rows)))
	for _, s := range f.texts.rows {
		w.Text(s)
	}
	w.Uint(uint64(len(f.traces.rows)))
	for _, id := range f.traces.rows {
		w.Raw(raw(id.Hi))
		w.Raw(raw(id.Lo))
	}
	w.Uint(uint64(spans))
	w.Raw(f.Bytes())
	return w.Bytes()
}

func (f *fieldWriter) span(s api.Span) {
	trace, _ := f.traces.number(s.Trace)
	f.Uint(trace)
	f.Raw(raw(uint64(s.ID)))
	f.Raw(raw(uint64(s.Parent)))
	f.name(s.Service)
	f.name(s.Op)
	f.small(int(s.Kind) + statusUnit*int(s.Status))
	f.Int(s.Start - f.start)
	f.Uint(uint64(s.End - s.Start))
	f.start = s.Start
	f.links(s.Links)
	f.attrs(s.Attrs)
	f.events(s.Events)
}

func (f *fieldWriter) links(l []api.SpanID) {
	f.Uint(uint64(len(l)))
	var ahead api.SpanID
	for _, id := range l {
		f.Uint(uint64(id - ahead))
		ahead = id
	}
}

func (f *fieldWriter) attrs(l []api.Attr) {
	f.Uint(uint64(len(l)))
	for _, a := range l {
		f.name(a.Key)
		f.small(int(a.Value.Kind))
		switch a.Value.Kind {
		case api.Text:
			f.name(a.Value.Text)
		case api.Int:
			f.Int(a.Value.Int)
		case api.Bool:
			f.small(int(a.Value.Int))
		}
	}
}

func (f *fieldWriter) events(l []api.Event) {
	f.Uint(uint64(len(l)))
	var ahead int64
	for _, e := range l {
		f.Uint(uint64(e.At - ahead))
		f.name(e.Name)
		ahead = e.At
	}
}

// name lays a text's number down.
func (f *fieldWriter) name(s string) {
	n, _ := f.texts.number(s)
	f.Uint(n)
}

// small lays one byte down.
func (f *fieldWriter) small(v int) { f.Raw([]byte{byte(v)}) }

// raw is a number in eight bytes, the highest first.
func raw(v uint64) []byte {
	b := make([]byte, rawSize)
	for i := range b {
		b[i] = byte(v >> (8 * (rawSize - 1 - i)))
	}
	return b
}
