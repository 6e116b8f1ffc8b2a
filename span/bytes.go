package span

import (
	"math"

	"spoor/api"
	"spoor/wire"
)

const rawSize = 8

// Encode is a span's bytes.
func Encode(s api.Span) ([]byte, api.Errno) {
	if e := Check(s); e != api.OK {
		return nil, e
	}
	w := wire.NewWriter()
	w.Raw(raw(s.Trace.Hi))
	w.Raw(raw(s.Trace.Lo))
	w.Raw(raw(uint64(s.ID)))
	w.Raw(raw(uint64(s.Parent)))
	w.Uint(uint64(len(s.Links)))
	for _, id := range s.Links {
		w.Raw(raw(uint64(id)))
	}
	w.Text(s.Service)
	w.Text(s.Op)
	w.Uint(uint64(s.Kind))
	w.Uint(uint64(s.Status))
	w.Uint(uint64(s.Start))
	w.Uint(uint64(s.End))
	layAttrs(w, s.Attrs)
	layEvents(w, s.Events)
	return w.Bytes(), api.OK
}

func layAttrs(w *wire.Writer, l []api.Attr) {
	w.Uint(uint64(len(l)))
	for _, a := range l {
		w.Text(a.Key)
		w.Uint(uint64(a.Value.Kind))
		w.Text(a.Value.Text)
		w.Int(a.Value.Int)
	}
}

func layEvents(w *wire.Writer, l []api.Event) {
	w.Uint(uint64(len(l)))
	for _, e := range l {
		w.Uint(uint64(e.At))
		w.Text(e.Name)
	}
}

// raw is a number in eight bytes, the highest first.
func raw(v uint64) []byte {
	b := make([]byte, rawSize)
	for i := range b {
		b[rawSize-1-i] = byte(v >> (8 * i))
	}
	return b
}

// Decode reads them.
func Decode(b []byte) (api.Span, error) {
	t := &taker{from: wire.NewReader(b)}
	s := t.span()
	t.end()
	if t.err != nil {
		return api.Span{}, t.err
	}
	if e := Check(s); e != api.OK {
		return api.Span{}, &api.Fault{At: 0, Err: e}
	}
	return s, nil
}

// taker takes fields one behind the other up to the first thing that is wrong, which it keeps; from there on it takes nothing, and tells noughts.
type taker struct {
	from *wire.Reader
	err  error
}

func (t *taker) span() api.Span {
	var s api.Span
	s.Trace.Hi = t.raw()
	s.Trace.Lo = t.raw()
	s.ID = api.SpanID(t.raw())
	s.Parent = api.SpanID(t.raw())
	s.Links = t.links()
	s.Service = t.text(api.MaxName)
	s.Op = t.text(api.MaxOp)
	s.Kind = api.Kind(t.small())
	s.Status = api.Status(t.small())
	s.Start = t.moment()
	s.End = t.moment()
	s.Attrs = t.attrs()
	s.Events = t.events()
	return s
}

func (t *taker) links() []api.SpanID {
	var l []api.SpanID
	for range t.count(api.MaxLinks, api.ErrSpanLinks) {
		l = append(l, api.SpanID(t.raw()))
	}
	return l
}

func (t *taker) attrs() []api.Attr {
	var l []api.Attr
	for range t.count(api.MaxAttrs, api.ErrSpanAttrs) {
		var a api.Attr
		a.Key = t.text(api.MaxKey)
		a.Value.Kind = api.ValueKind(t.small())
		a.Value.Text = t.text(api.MaxText)
		a.Value.Int = take(t, t.from.Int)
		l = append(l, a)
	}
	return l
}

func (t *taker) events() []api.Event {
	var l []api.Event
	for range t.count(api.MaxEvents, api.ErrSpanEvents) {
		var e api.Event
		e.At = t.moment()
		e.Name = t.text(api.MaxOp)
		l = append(l, e)
	}
	return l
}

// count takes how many there are of a list that has at most so many.
func (t *taker) count(most uint64, e api.Errno) uint64 {
	at := t.from.At()
	n := take(t, t.from.Uint)
	if n > most {
		t.err = &api.Fault{At: at, Err: e}
		return 0
	}
	return n
}

// small takes a number of which only small ones may be: a great one must not turn into one of these where an int has 32 bits.
func (t *taker) small() int { return int(min(take(t, t.from.Uint), math.MaxInt32)) }

// moment takes a moment; those that are too late for an int64 are told apart no further, since none of them may be.
func (t *taker) moment() int64 { return int64(min(take(t, t.from.Uint), api.MaxTime+1)) }

func (t *taker) text(most int) string {
	return take(t, func() (string, error) { return t.from.Text(most) })
}

func (t *taker) raw() uint64 {
	var v uint64
	for _, c := range take(t, func() ([]byte, error) { return t.from.Raw(rawSize) }) {
		v = v<<8 | uint64(c)
	}
	return v
}

func (t *taker) end() {
	if t.err == nil {
		t.err = t.from.End()
	}
}

// take calls one of the Reader's calls, unless something was wrong ahead of it.
func take[T any](t *taker, call func() (T, error)) T {
	var v T
	if t.err == nil {
		v, t.err = call()
	}
	return v
}
