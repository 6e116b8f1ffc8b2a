package index

import (
	"strconv"

	"spoor/api"
	"spoor/span"
)

// The words for kinds and for statuses, by their numbers.
var (
	kinds    = [...]string{"internal", "server", "client", "producer", "consumer"}
	statuses = [...]string{"unset", "fine", "failed"}
)

// Terms tells those of a span, rising.
func Terms(s api.Span) []api.Term {
	if span.Check(s) != api.OK {
		return nil
	}
	return termsOf(&s)
}

// termsOf has those of a span that may be. They rise as they stand here: its keys do, and the `.` ahead of them is below every letter.
func termsOf(s *api.Span) []api.Term {
	l := make([]api.Term, 0, len(s.Attrs)+4)
	for _, a := range s.Attrs {
		l = append(l, termOf("."+a.Key, a.Value))
	}
	return append(l,
		termOf("kind", api.Value{Kind: api.Int, Int: int64(s.Kind)}),
		termOf("op", api.Value{Text: s.Op}),
		termOf("service", api.Value{Text: s.Service}),
		termOf("status", api.Value{Kind: api.Int, Int: int64(s.Status)}))
}

// termOf is the term of a field that has terms, and a value that it may have.
func termOf(field string, v api.Value) api.Term {
	switch field {
	case "service", "op":
		return api.Term{Field: field, Value: v.Text}
	case "kind":
		return api.Term{Field: field, Value: kinds[v.Int]}
	case "status":
		return api.Term{Field: field, Value: statuses[v.Int]}
	}
	return api.Term{Field: field, Value: attribute(v)}
}

// attribute is how an attribute's value stands in a term: a `"` ahead tells texts from numbers and truths that are written alike.
func attribute(v api.Value) string {
	switch v.Kind {
	case api.Int:
		return strconv.FormatInt(v.Int, 10)
	case api.Bool:
		return strconv.FormatBool(v.Int == 1)
	}
	return `"` + v.Text
}
