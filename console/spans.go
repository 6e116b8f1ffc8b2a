package console

import (
	"spoor/api"
	"spoor/span"
)

// span makes a span. Whether it may be is not asked: only so can the calls be shown one that may not.
func (c *Console) span(l *line) act {
	name := l.name()
	s := &api.Span{
		Trace:   traceOf(l),
		ID:      api.SpanID(l.number()),
		Parent:  api.SpanID(l.number()),
		Service: l.field(),
		Op:      l.field(),
		Start:   l.number(),
		End:     l.number(),
	}
	return func() string {
		c.spans.put(name, s)
		return done
	}
}

func traceOf(l *line) api.TraceID { return api.TraceID{Lo: uint64(l.number())} }

// change is a command that writes into a span, and is refused nothing.
func (c *Console) change(name string, write func(*api.Span)) act {
	return func() string {
		write(c.spans.get(name))
		return done
	}
}

func (c *Console) kind(l *line) act {
	name, k := l.name(), api.Kind(l.byte())
	return c.change(name, func(s *api.Span) { s.Kind = k })
}

func (c *Console) status(l *line) act {
	name, k := l.name(), api.Status(l.byte())
	return c.change(name, func(s *api.Span) { s.Status = k })
}

func (c *Console) link(l *line) act {
	name, id := l.name(), api.SpanID(l.number())
	return c.change(name, func(s *api.Span) { s.Links = append(s.Links, id) })
}

func (c *Console) attr(l *line) act {
	name := l.name()
	a := api.Attr{Key: l.field(), Value: l.value()}
	return c.change(name, func(s *api.Span) { s.Attrs = append(s.Attrs, a) })
}

func (c *Console) event(l *line) act {
	name := l.name()
	e := api.Event{At: l.number(), Name: l.rest()}
	return c.change(name, func(s *api.Span) { s.Events = append(s.Events, e) })
}

func (c *Console) check(l *line) act {
	name := l.name()
	return func() string {
		need(span.Check(*c.spans.get(name)))
		return done
	}
}

// spansOf are the spans of names that must be there.
func (c *Console) spansOf(names []string) []api.Span {
	var l []api.Span
	for _, s := range c.spans.all(names) {
		l = append(l, *s)
	}
	return l
}
