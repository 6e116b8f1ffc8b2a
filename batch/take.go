package batch

import (
	"math"

	"spoor/api"
	"spoor/span"
	"spoor/wire"
)

// taken are the spans that bytes tell.
func taken(b []byte) []api.Span {
	if len(b) > api.MaxBatch {
		giveUp(0, api.ErrBatchLong)
	}
	if len(b) < len(head) || string(b[:len(head)]) != head {
		giveUp(0, api.ErrBatchHead)
	}
	t := &taker{Reader: wire.NewReader(b)}
	must(t.Raw(len(head)))
	t.texts = hear(t, func() string { return must(t.Text(api.MaxText)) })
	t.traces = hear(t, func() api.TraceID { return api.TraceID{Hi: t.raw(), Lo: t.raw()} })
	l := t.spans()
	t.texts.end()
	t.traces.end()
	need(t.End())
	return l
}

// taker takes one thing behind the other, and gives up at the first that is wrong.
type taker struct {
	*wire.Reader
	texts  *heard[string]
	traces *heard[api.TraceID]
	start  int64 // of the span ahead
}

func (t *taker) spans() []api.Span {
	var l []api.Span
	for range t.count(api.MaxBatchSpans, api.ErrBatchMany) {
		at := t.At()
		s := t.span()
		if e := span.Check(s); e != api.OK {
			giveUp(at, e)
		}
		l = append(l, s)
	}
	return l
}

func (t *taker) span() api.Span {
	var s api.Span
	s.Trace = t.traces.next(t)
	s.ID = api.SpanID(t.raw())
	s.Parent = api.SpanID(t.raw())
	s.Service = t.texts.next(t)
	s.Op = t.texts.next(t)
	both := t.small()
	s.Kind = api.Kind(both % statusUnit)
	s.Status = api.Status(both / statusUnit)
	s.Start = t.since()
	s.End = t.later(s.Start)
	s.Links = t.links()
	s.Attrs = t.attrs()
	s.Events = t.events()
	return s
}

func (t *taker) links() []api.SpanID {
	var l []api.SpanID
	var ahead uint64
	for range t.count(api.MaxLinks, api.ErrBatchForm) {
		ahead = t.above(ahead, math.MaxUint64)
		l = append(l, api.SpanID(ahead))
	}
	return l
}

func (t *taker) attrs() []api.Attr {
	var l []api.Attr
	for range t.count(api.MaxAttrs, api.ErrBatchForm) {
		l = append(l, api.Attr{Key: t.texts.next(t), Value: t.value()})
	}
	return l
}

func (t *taker) value() api.Value {
	v := api.Value{Kind: api.ValueKind(t.atMost(byte(api.Bool)))}
	switch v.Kind {
	case api.Text:
		v.Text = t.texts.next(t)
	case api.Int:
		v.Int = must(t.Int())
	case api.Bool:
		v.Int = int64(t.atMost(1))
	}
	return v
}

func (t *taker) events() []api.Event {
	var l []api.Event
	var ahead int64
	for range t.count(api.MaxEvents, api.ErrBatchForm) {
		ahead = t.later(ahead)
		l = append(l, api.Event{At: ahead, Name: t.texts.next(t)})
	}
	return l
}

// count takes how many there are of a list that has at most so many.
func (t *taker) count(most uint64, e api.Errno) uint64 {
	at := t.At()
	n := must(t.Uint())
	if n > most {
		giveUp(at, e)
	}
	return n
}

// since takes a Start, as it lies on either side of the one ahead. That one is not below 0: its span has been looked at.
func (t *taker) since() int64 {
	at := t.At()
	d := must(t.Int())
	if d > math.MaxInt64-t.start {
		giveUp(at, api.ErrBatchForm)
	}
	t.start += d
	return t.start
}

// later takes a moment, as it lies behind another one.
func (t *taker) later(than int64) int64 { return int64(t.above(uint64(than), math.MaxInt64)) }

// above takes a number, as it lies above another one. Both wrap round alike where an End is told from a Start below 0, which is refused only when all fields are read.
func (t *taker) above(other uint64, most uint64) uint64 {
	at := t.At()
	d := must(t.Uint())
	if d > most-other {
		giveUp(at, api.ErrBatchForm)
	}
	return other + d
}

// atMost takes one byte of which only the least ones may be.
func (t *taker) atMost(most byte) byte {
	at := t.At()
	v := t.small()
	if v > most {
		giveUp(at, api.ErrBatchForm)
	}
	return v
}

// small takes one byte.
func (t *taker) small() byte { return must(t.Raw(1))[0] }

func (t *taker) raw() uint64 {
	var v uint64
	for _, c := range must(t.Raw(rawSize)) {
		v = v<<8 | uint64(c)
	}
	return v
}
