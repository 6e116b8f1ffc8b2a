package console

import (
	"strconv"
	"strings"

	"spoor/api"
)

func (c *Console) arm(l *line) act {
	n, how, units := l.count(), l.how(), l.count()
	return func() string {
		need(c.disk.Arm(n, how, units))
		return done
	}
}

func (c *Console) power(l *line) act {
	keep := api.Keep{Names: l.count(), Data: l.counts()}
	return func() string {
		c.disk.Restart(keep)
		c.engine = nil
		return done
	}
}

func (c *Console) pending(*line) act {
	return func() string {
		keep := c.disk.Pending()
		text := strconv.Itoa(keep.Names)
		for _, units := range keep.Data {
			text += " " + strconv.Itoa(units)
		}
		return text
	}
}

func (c *Console) files(*line) act {
	return func() string {
		names, why := c.disk.Names()
		need(why)
		for i, name := range names {
			size, why := c.disk.Size(name)
			need(why)
			names[i] += ":" + strconv.Itoa(size)
		}
		return strings.Join(names, " ")
	}
}

func (c *Console) bytes(l *line) act {
	name, at, n := l.field(), l.count(), l.count()
	return func() string {
		b, why := c.disk.Read(name, at, n)
		need(why)
		return toHex(b)
	}
}

func (c *Console) flip(l *line) act {
	name, at, by := l.field(), l.count(), l.byte()
	return func() string {
		need(c.disk.Flip(name, at, by))
		c.engine = nil
		return done
	}
}
