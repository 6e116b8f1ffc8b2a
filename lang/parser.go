package lang

import (
	"math"
	"strings"

	"spoor/api"
)

// parser goes along tokens by the grammar, and gives up at the first one that is wrong: nothing is asked of a token ahead of all that is asked of the one before.
type parser struct {
	tokens []token
	next   int // the one that is looked at
	deep   int // how many lie around it, of those that nest
}

func (p *parser) look() token {
	t := p.tokens[p.next]
	if t.sort == noToken {
		panic(t.fault(api.ErrLangToken))
	}
	return t
}

func (p *parser) take() token {
	t := p.look()
	p.next++
	return t
}

// need takes a token that alone can stand there.
func (p *parser) need(sign string) {
	if t := p.take(); t.bytes != sign {
		panic(t.fault(api.ErrLangWord))
	}
}

func (p *parser) query() api.Query {
	q := api.Query{Set: p.set()}
	for p.look().sort != theEnd {
		p.need("|")
		q.Stages = append(q.Stages, p.stage())
	}
	return q
}

func (p *parser) set() api.Expr   { return p.row(p.both, api.OpEither, api.OpEither) }
func (p *parser) both() api.Expr  { return p.row(p.chain, api.OpBoth, api.OpBoth) }
func (p *parser) chain() api.Expr { return p.row(p.unit, api.OpChild, api.OpBeside) }
func (p *parser) cond() api.Expr  { return p.row(p.conj, api.OpOr, api.OpOr) }
func (p *parser) conj() api.Expr  { return p.row(p.neg, api.OpAnd, api.OpAnd) }

// row is parts with the operators of one line between them, from the left.
func (p *parser) row(part func() api.Expr, first, last api.Op) api.Expr {
	e := part()
	for {
		op := opFor(p.look(), first, last)
		if op == 0 {
			return e
		}
		p.take()
		e = api.Expr{Op: op, Args: []api.Expr{e, part()}}
	}
}

func (p *parser) unit() api.Expr {
	switch t := p.take(); t.bytes {
	case "{":
		return p.within(t, p.spans)
	case "(":
		return p.bracketed(t, p.set)
	default:
		panic(t.fault(api.ErrLangWord))
	}
}

func (p *parser) spans() api.Expr {
	e := api.Expr{Op: api.OpSpans}
	if p.look().bytes != "}" {
		e.Args = []api.Expr{p.cond()}
	}
	p.need("}")
	return e
}

func (p *parser) neg() api.Expr {
	switch t := p.take(); t.bytes {
	case "not":
		return api.Expr{Op: api.OpNot, Args: []api.Expr{p.within(t, p.neg)}}
	case "(":
		return p.bracketed(t, p.cond)
	default:
		return p.comparison(t)
	}
}

// within is a part that is one deeper than the token ahead of it.
func (p *parser) within(t token, part func() api.Expr) api.Expr {
	if p.deep == api.MaxDeep {
		panic(t.fault(api.ErrLangDeep))
	}
	p.deep++
	e := part()
	p.deep--
	return e
}

func (p *parser) bracketed(t token, part func() api.Expr) api.Expr {
	e := p.within(t, part)
	p.need(")")
	return e
}

func (p *parser) comparison(t token) api.Expr {
	f := fieldOf(t.bytes)
	if f == noField {
		panic(t.fault(api.ErrLangWord))
	}
	op := p.operator(f)
	return api.Expr{Op: op, Field: strings.Clone(t.bytes), Value: p.value(f, op)}
}

func (p *parser) operator(f field) api.Op {
	t := p.take()
	op := opFor(t, api.OpEq, api.OpLike)
	if !f.takes(op) {
		panic(t.fault(api.ErrLangWord))
	}
	return op
}

func (p *parser) value(f field, op api.Op) api.Value {
	t := p.take()
	var v api.Value
	var ok bool
	switch t.sort {
	case aText:
		v, ok = api.Value{Text: t.stands}, true
	case aNumber:
		v, ok = f.number(t.bytes)
	case aWord:
		v, ok = f.word(t.bytes)
	default:
		panic(t.fault(api.ErrLangWord))
	}
	if !ok || !f.allows(op, v) {
		panic(t.fault(api.ErrLangValue))
	}
	return v
}

func (p *parser) stage() api.Stage {
	switch t := p.take(); t.bytes {
	case "count":
		return p.limit(api.Stage{Name: "count"}, countField)
	case "max", "min", "sum":
		s := api.Stage{Name: strings.Clone(t.bytes), Field: p.fieldOfStage(t)}
		return p.limit(s, fieldOf(s.Field))
	case "top":
		n := p.amount(countField, 1, api.MaxTop)
		p.need("by")
		return api.Stage{Name: "top", Field: p.fieldOfStage(t), Int: n}
	default:
		panic(t.fault(api.ErrLangWord))
	}
}

// limit is a stage with the operator and the number behind it, such as a field would take.
func (p *parser) limit(s api.Stage, f field) api.Stage {
	s.Op = p.operator(f)
	s.Int = p.amount(f, math.MinInt64, math.MaxInt64)
	return s
}

// amount is an N.
func (p *parser) amount(f field, least, most int64) int64 {
	t := p.look()
	v := p.value(f, api.OpEq)
	if v.Int < least || v.Int > most {
		panic(t.fault(api.ErrLangValue))
	}
	return v.Int
}

func (p *parser) fieldOfStage(name token) string {
	t := p.take()
	if !stageTakes(name.bytes, t.bytes) {
		panic(t.fault(api.ErrLangWord))
	}
	return strings.Clone(t.bytes)
}

// stageTakes tells whether a stage that has a field may have this one.
func stageTakes(stage, name string) bool {
	f := fieldOf(name)
	return f == timeField || f == momentField && stage == "top"
}
