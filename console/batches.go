package console

import (
	"strconv"

	"spoor/api"
	"spoor/batch"
)

func (c *Console) batch(l *line) act {
	name, of := l.name(), l.names()
	return func() string {
		spans := c.spansOf(of)
		c.batches.room(name)
		b, err := batch.Encode(spans)
		if err != nil {
			return faultOf(err)
		}
		c.batches.put(name, b)
		return strconv.Itoa(len(b)) + " bytes " + sumOf(b)
	}
}

func (c *Console) spoil(l *line) act {
	name, at, by := l.name(), l.count(), l.hex()
	return func() string {
		b := c.batches.get(name)
		if len(by) > len(b)-at {
			giveUp(api.ErrDiskRange)
		}
		copy(b[at:], by)
		return done
	}
}

func (c *Console) read(l *line) act {
	name := l.name()
	return func() string {
		spans, err := batch.Decode(c.batches.get(name))
		if err != nil {
			return faultOf(err)
		}
		return strconv.Itoa(len(spans)) + " spans"
	}
}
