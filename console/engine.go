package console

import (
	"strconv"

	"spoor/api"
	"spoor/engine"
	"spoor/lang"
)

// running is the engine, which must be there.
func (c *Console) running() *engine.Engine {
	if c.engine == nil {
		giveUp(api.ErrConsoleName)
	}
	return c.engine
}

func (c *Console) open(l *line) act {
	config := api.Config{Segment: l.count(), Fan: l.count(), Workers: l.count()}
	return func() string {
		e, r, err := engine.Open(c.disk, config)
		c.engine = e
		if err != nil {
			return openFaultOf(err)
		}
		return "segments " + strconv.Itoa(r.Segments) + " first " + strconv.FormatUint(r.First, 10) +
			" next " + strconv.FormatUint(r.Next, 10) + " torn " + strconv.Itoa(r.Torn)
	}
}

func (c *Console) ingest(l *line) act {
	name := l.name()
	return func() string {
		e, b := c.running(), c.batches.get(name)
		a, err := e.Ingest(b)
		if err != nil {
			return refusalOf(err)
		}
		return "record " + strconv.FormatUint(a.Record, 10) + " fresh " + strconv.Itoa(a.Fresh) +
			" better " + strconv.Itoa(a.Better) + " kept " + strconv.Itoa(a.Kept)
	}
}

func (c *Console) flush(*line) act {
	return func() string {
		need(c.running().Flush())
		return done
	}
}

func (c *Console) checkpoint(*line) act {
	return func() string {
		need(c.running().Checkpoint())
		return done
	}
}

func (c *Console) sick(*line) act {
	return func() string { return truth(c.running().Sick()) }
}

func (c *Console) ask(l *line) act {
	request := l.hex()
	return func() string { return toHex(c.running().Ask(request)) }
}

func (c *Console) print(l *line) act {
	text := l.rest()
	return func() string {
		q, err := lang.Parse(text)
		if err != nil {
			return faultOf(err)
		}
		form, why := lang.Print(q)
		need(why)
		return form
	}
}

func (c *Console) watch(l *line) act {
	room, text := l.count(), l.rest()
	return func() string {
		e := c.running()
		q, err := lang.Parse(text)
		if err != nil {
			return faultOf(err)
		}
		w, why := e.Watch(q, room)
		need(why)
		return strconv.Itoa(w)
	}
}

func (c *Console) take(l *line) act {
	w, most := l.count(), l.count()
	return func() string {
		hits, lost, why := c.running().Take(w, most)
		need(why)
		text := "lost " + strconv.Itoa(lost) + ":"
		for _, h := range hits {
			text += " " + pair(h.Trace.Hi, h.Trace.Lo) + "." + strconv.FormatUint(uint64(h.ID), 10)
		}
		return text
	}
}

func (c *Console) unwatch(l *line) act {
	w := l.count()
	return func() string {
		need(c.running().Unwatch(w))
		return done
	}
}
