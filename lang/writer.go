package lang

import "spoor/api"

// maxParts is how many parts may be nested in one another before a tree is given up: a list that is a part of itself has no end.
const maxParts = 1 << 16

// writer makes a query's form. What it is told of answers false where a tree or a stage is not as it must be, or the form is nested too deep; what is written then is of no use.
type writer struct {
	form  []byte
	apart bool // a blank belongs between the last token and the next one
	deep  int  // how many lie around it, of the tokens that nest
	parts int  // how many lie around it, of the tree's parts that have two
}

func (w *writer) long() bool { return len(w.form) > api.MaxQuery }

// put writes tokens. A form that is too long already is of use to nobody, but what is behind is looked at all the same.
func (w *writer) put(tokens ...string) {
	for _, t := range tokens {
		if w.long() {
			return
		}
		if w.apart && t != "}" && t != ")" {
			w.form = append(w.form, ' ')
		}
		w.form = append(w.form, t...)
		w.apart = t != "{" && t != "("
	}
}

// open writes a token that nests.
func (w *writer) open(token string) bool {
	w.put(token)
	w.deep++
	return w.deep <= api.MaxDeep
}

// shut ends what a token nests, by its other half, if it has one.
func (w *writer) shut(tokens ...string) bool {
	w.put(tokens...)
	w.deep--
	return true
}

func (w *writer) query(q api.Query) bool {
	if !w.set(&q.Set) {
		return false
	}
	for _, s := range q.Stages {
		if !w.stage(s) {
			return false
		}
	}
	return true
}

func (w *writer) set(e *api.Expr) bool {
	switch e.Op {
	case api.OpSpans:
		return bare(e) && w.spans(e.Args)
	case api.OpBoth, api.OpEither, api.OpChild, api.OpBelow, api.OpBeside:
		return bare(e) && w.two(e, w.set)
	}
	return false
}

func (w *writer) cond(e *api.Expr) bool {
	switch e.Op {
	case api.OpAnd, api.OpOr:
		return bare(e) && w.two(e, w.cond)
	case api.OpNot:
		return bare(e) && len(e.Args) == 1 && w.open("not") && w.part(&e.Args[0], single, w.cond) && w.shut()
	}
	return w.comparison(e)
}

// bare tells whether there is nothing to be compared.
func bare(e *api.Expr) bool { return e.Field == "" && e.Value == api.Value{} }

func (w *writer) spans(args []api.Expr) bool {
	if len(args) > 1 || !w.open("{") {
		return false
	}
	for i := range args {
		if !w.cond(&args[i]) {
			return false
		}
	}
	return w.shut("}")
}

// two writes an operator between its arguments. Several of one line are read from the left: so the second one must bind closer than it, the first one as close.
func (w *writer) two(e *api.Expr, arg func(*api.Expr) bool) bool {
	if len(e.Args) != 2 || w.parts == maxParts {
		return false
	}
	w.parts++
	own := line(e.Op)
	if !w.part(&e.Args[0], own, arg) {
		return false
	}
	w.put(signFor(e.Op))
	if !w.part(&e.Args[1], own+1, arg) {
		return false
	}
	w.parts--
	return true
}

// part writes an argument, in brackets if it is of a lesser line.
func (w *writer) part(e *api.Expr, least int, arg func(*api.Expr) bool) bool {
	if line(e.Op) >= least {
		return arg(e)
	}
	return w.open("(") && arg(e) && w.shut(")")
}

func (w *writer) comparison(e *api.Expr) bool {
	f := fieldOf(e.Field)
	if len(e.Args) > 0 || !f.allows(e.Op, e.Value) {
		return false
	}
	w.put(e.Field, signFor(e.Op), f.written(e.Value))
	return true
}

func (w *writer) stage(s api.Stage) bool {
	switch s.Name {
	case "count":
		return s.Field == "" && w.limit(s, countField, "|", s.Name)
	case "max", "min", "sum":
		return stageTakes(s.Name, s.Field) && w.limit(s, fieldOf(s.Field), "|", s.Name, s.Field)
	case "top":
		if !stageTakes(s.Name, s.Field) || s.Op != 0 || s.Int < 1 || s.Int > api.MaxTop {
			return false
		}
		w.put("|", s.Name, digitsOf(s.Int), "by", s.Field)
		return true
	}
	return false
}

// limit writes a stage that ends with an operator and a number, such as a field would take.
func (w *writer) limit(s api.Stage, f field, ahead ...string) bool {
	v := api.Value{Kind: api.Int, Int: s.Int}
	if !f.allows(s.Op, v) {
		return false
	}
	w.put(ahead...)
	w.put(signFor(s.Op), f.written(v))
	return true
}
