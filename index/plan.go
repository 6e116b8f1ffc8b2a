package index

import (
	"strings"

	"spoor/api"
	"spoor/lang"
)

// Plan tells the terms that each trace has in which a query finds something, rising.
func Plan(q api.Query) ([]api.Term, api.Errno) {
	if lang.Check(q) != api.OK {
		return nil, api.ErrLangTree
	}
	return needs(&q.Set).rising(), api.OK
}

// needs has the terms that an expression that may be needs, in a bag of their own.
func needs(e *api.Expr) bag {
	switch e.Op {
	case api.OpSpans:
		if len(e.Args) > 0 {
			return needs(&e.Args[0])
		}
	case api.OpBoth, api.OpChild, api.OpBelow, api.OpBeside, api.OpAnd:
		return together(needs(&e.Args[0]), needs(&e.Args[1]))
	case api.OpEither, api.OpOr:
		return common(needs(&e.Args[0]), needs(&e.Args[1]))
	case api.OpEq:
		if hasTerms(e.Field) {
			return bag{termOf(e.Field, e.Value): {}}
		}
	}
	return bag{}
}

// hasTerms tells whether the values of a field stand in terms.
func hasTerms(field string) bool {
	switch field {
	case "service", "op", "kind", "status":
		return true
	}
	return strings.HasPrefix(field, ".")
}
