package console

import "spoor/wire"

// traceHi is of all traces that a line can tell.
const traceHi = 0

// asking is a command that asks the engine: what it lays of the line into a request of that kind, and what stands in the answer.
func asking(kind uint64, lay func(*request), tell func(*told)) reader {
	return func(c *Console, l *line) act {
		r := &request{wire.NewWriter(), l}
		r.Uint(kind)
		lay(r)
		return func() string { return telling(c.running().Ask(r.Bytes()), tell) }
	}
}

// request is bytes, into which the fields of a line are laid.
type request struct {
	*wire.Writer
	*line
}

// plain lays so many fields down, which are numbers that are never below 0.
func (r *request) plain(many int) {
	for range many {
		r.Uint(uint64(r.number()))
	}
}

func (r *request) nothing() {}

func (r *request) trace() {
	r.Uint(traceHi)
	r.plain(1)
}

func (r *request) traceAndNumber() {
	r.trace()
	r.plain(1)
}

func (r *request) hours() {
	r.Int(r.number())
	r.Int(r.number())
}

func (r *request) top() {
	r.hours()
	r.plain(2)
}

func (r *request) query() { r.Text(r.rest()) }

// search has its budget ahead in the line, but behind in the request.
func (r *request) search() {
	budget := r.number()
	r.query()
	r.Uint(uint64(budget))
}
