package engine

import (
	"errors"

	"spoor/api"
	"spoor/calls"
	"spoor/sketch"
	"spoor/span"
	"spoor/wire"
)

// answer lays down what a request is answered.
type answer struct {
	*wire.Writer
}

func newAnswer() answer { return answer{wire.NewWriter()} }

// refusal is the answer of an error: its number, and the place, where one is told.
func refusal(err error) []byte {
	a := newAnswer()
	var n api.Errno
	errors.As(err, &n)
	a.Uint(uint64(n))
	var f *api.Fault
	if errors.As(err, &f) {
		a.Uint(uint64(f.At))
	}
	return a.Bytes()
}

// list lays down how many there are, and each of them.
func list[T any](a answer, l []T, lay func(T)) {
	a.Uint(uint64(len(l)))
	for _, x := range l {
		lay(x)
	}
}

func (a answer) trace(t api.TraceID) {
	a.Uint(t.Hi)
	a.Uint(t.Lo)
}

func (a answer) span(s api.Span) {
	b, _ := span.Encode(s) // S has spans that may be alone
	a.Uint(uint64(len(b)))
	a.Raw(b)
}

func (a answer) node(n api.Node) {
	a.Uint(uint64(n.ID))
	a.Uint(uint64(n.Parent))
	a.Uint(uint64(n.Origin))
	a.Uint(uint64(n.Tree))
	a.Uint(uint64(n.Depth))
	a.Int(n.Clip.From)
	a.Int(n.Clip.To)
}

func (a answer) times(o api.Own) {
	a.Uint(uint64(o.ID))
	a.Uint(o.Total)
	a.Uint(o.Exclusive)
	a.Uint(o.Self)
}

func (a answer) leg(l api.Leg) {
	a.Uint(uint64(l.Owner))
	a.Int(l.From)
	a.Int(l.To)
}

func (a answer) hop(h api.Hop) {
	a.Uint(uint64(h.Root))
	a.Uint(uint64(h.From))
	a.Int(h.Gap)
	list(a, h.Legs, a.leg)
}

func (a answer) service(s api.ServiceShare) {
	a.Text(s.Service)
	a.Uint(s.Nanos)
}

func (a answer) row(x api.EdgeTally) {
	a.Text(x.Edge.From)
	a.Text(x.Edge.To)
	a.Uint(calls.Cap(x.Tally.Calls))
	a.Uint(calls.Cap(x.Tally.Errors))
	a.Uint(calls.Cap(x.Tally.Took))
	for _, part := range [...]uint64{50, 95, 99} {
		least, greatest, _ := sketch.Quantile(x.Tally.Bars, part, 100) // an edge that is told has a call
		a.Uint(least)
		a.Uint(greatest)
	}
}

func (a answer) window(w api.Window) {
	a.Int(w.From)
	a.Int(w.Hours)
	list(a, w.Edges, a.row)
}

func (a answer) hit(h api.Hit) {
	a.trace(h.Trace)
	a.Uint(uint64(h.ID))
}

func (a answer) term(t api.Term) {
	a.Text(t.Field)
	a.Text(t.Value)
}
