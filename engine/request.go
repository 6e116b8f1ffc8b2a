package engine

import (
	"spoor/api"
	"spoor/wire"
)

// The kinds of requests, from 1 on.
const (
	askSpans uint64 = iota + 1
	askForest
	askTimes
	askPath
	askChain
	askServices
	askRange
	askTop
	askCover
	askTraces
	askCounts
	askHits
	askPlan
)

// request is what was asked: the parts that its kind has; all others are nothing.
type request struct {
	kind     uint64
	trace    api.TraceID // of askTraces: the one behind which they begin
	root     api.SpanID
	from, to int64
	by, most uint64
	query    string
	budget   uint64
}

// parts takes a request from bytes. Once one is wrong, the whole is no request, whatever is taken behind it.
type parts struct {
	*wire.Reader
	wrong bool
}

// readRequest reads a request; false: it is none.
func readRequest(b []byte) (request, bool) {
	p := &parts{Reader: wire.NewReader(b)}
	r := request{kind: p.number()}
	switch r.kind {
	case askSpans, askForest, askTimes, askChain:
		r.trace = p.trace()
	case askPath, askServices:
		r.trace, r.root = p.trace(), api.SpanID(p.number())
	case askRange, askCover:
		r.from, r.to = p.signed(), p.signed()
	case askTop:
		r.from, r.to, r.by, r.most = p.signed(), p.signed(), p.number(), p.number()
	case askTraces:
		r.trace, r.most = p.trace(), p.number()
	case askCounts:
	case askHits:
		r.query, r.budget = p.text(), p.number()
	case askPlan:
		r.query = p.text()
	default:
		return request{}, false
	}
	p.note(p.End())
	return r, !p.wrong
}

func (p *parts) note(err error) { p.wrong = p.wrong || err != nil }

func (p *parts) number() uint64 {
	v, err := p.Uint()
	p.note(err)
	return v
}

func (p *parts) signed() int64 {
	v, err := p.Int()
	p.note(err)
	return v
}

func (p *parts) text() string {
	s, err := p.Text(api.MaxQuery)
	p.note(err)
	return s
}

func (p *parts) trace() api.TraceID {
	hi := p.number()
	return api.TraceID{Hi: hi, Lo: p.number()}
}
