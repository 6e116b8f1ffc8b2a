package match

import (
	"cmp"
	"strings"

	"spoor/api"
	"spoor/lang"
)

// holding has the spans of a row for which a condition that may be holds.
func holding(c *api.Expr, row []*spot) set {
	switch c.Op {
	case api.OpAnd:
		return both(holding(&c.Args[0], row), holding(&c.Args[1], row))
	case api.OpOr:
		return either(holding(&c.Args[0], row), holding(&c.Args[1], row))
	case api.OpNot:
		return not(holding(&c.Args[0], row))
	}
	ask := askerOf(c.Field)
	return pick(len(row), func(i int) bool {
		has, there := ask(row[i])
		return there && compares(has, c.Op, c.Value)
	})
}

// compares tells whether a value stands to another one as an operator says.
func compares(has api.Value, op api.Op, v api.Value) bool {
	if has.Kind != v.Kind {
		return false
	}
	if op == api.OpLike {
		return lang.Like(v.Text, has.Text)
	}
	// Of one kind either no value has a text, or none a number.
	return stands(cmp.Or(cmp.Compare(has.Text, v.Text), cmp.Compare(has.Int, v.Int)), op)
}

// stands tells whether an operator is so of two things of which the first is the lesser (-1), the same (0), or the greater one (1).
func stands(order int, op api.Op) bool {
	switch op {
	case api.OpEq:
		return order == 0
	case api.OpNe:
		return order != 0
	case api.OpLt:
		return order < 0
	case api.OpLe:
		return order <= 0
	case api.OpGt:
		return order > 0
	case api.OpGe:
		return order >= 0
	}
	return false
}

// asker tells what a span has of a field; false, if it has nothing.
type asker func(s *spot) (api.Value, bool)

// askerOf is how a field that may be is asked. All but the keys of attributes, of which there is no end, stand in its table.
func askerOf(field string) asker {
	table := []struct {
		field string
		ask   func(s *spot) api.Value
	}{
		{"service", func(s *spot) api.Value { return text(s.span.Service) }},
		{"op", func(s *spot) api.Value { return text(s.span.Op) }},
		{"kind", func(s *spot) api.Value { return number(int64(s.span.Kind)) }},
		{"status", func(s *spot) api.Value { return number(int64(s.span.Status)) }},
		{"dur", func(s *spot) api.Value { return number(s.span.End - s.span.Start) }},
		{"self", func(s *spot) api.Value { return number(int64(s.times(s.node.ID).Self)) }},
		{"total", func(s *spot) api.Value { return number(int64(s.times(s.node.ID).Total)) }},
		{"start", func(s *spot) api.Value { return number(s.span.Start) }},
		{"depth", func(s *spot) api.Value { return number(int64(s.node.Depth)) }},
		{"events", func(s *spot) api.Value { return number(int64(len(s.span.Events))) }},
		{"links", func(s *spot) api.Value { return number(int64(len(s.span.Links))) }},
		{"root", func(s *spot) api.Value { return truth(s.node.Origin != api.Inner) }},
		{"born", func(s *spot) api.Value { return truth(s.node.Origin == api.Born) }},
		{"orphan", func(s *spot) api.Value { return truth(s.node.Origin == api.Orphan) }},
		{"looped", func(s *spot) api.Value { return truth(s.node.Origin == api.Looped) }},
		{"leaf", func(s *spot) api.Value { return truth(s.leaf) }},
	}
	for _, row := range table {
		if row.field == field {
			return func(s *spot) (api.Value, bool) { return row.ask(s), true }
		}
	}
	key := strings.TrimPrefix(field, ".")
	return func(s *spot) (api.Value, bool) { return s.attribute(key) }
}

func text(s string) api.Value  { return api.Value{Kind: api.Text, Text: s} }
func number(n int64) api.Value { return api.Value{Kind: api.Int, Int: n} }

func truth(is bool) api.Value {
	v := api.Value{Kind: api.Bool}
	if is {
		v.Int = 1
	}
	return v
}
