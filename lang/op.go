package lang

import "spoor/api"

// signFor is how an operator is written; of others nothing.
func signFor(op api.Op) string {
	switch op {
	case api.OpBoth:
		return "&&"
	case api.OpEither:
		return "||"
	case api.OpChild, api.OpGt:
		return ">"
	case api.OpBelow:
		return ">>"
	case api.OpBeside:
		return "~"
	case api.OpAnd:
		return "and"
	case api.OpOr:
		return "or"
	case api.OpEq:
		return "="
	case api.OpNe:
		return "!="
	case api.OpLt:
		return "<"
	case api.OpLe:
		return "<="
	case api.OpGe:
		return ">="
	case api.OpLike:
		return "=~"
	}
	return ""
}

// opFor is the one from first up to last, that one too, that a token is the sign of; 0, if there is none.
func opFor(t token, first, last api.Op) api.Op {
	for op := first; op <= last; op++ {
		if signFor(op) == t.bytes {
			return op
		}
	}
	return 0
}

// line says how close an operator binds what stands on its sides: those of the lesser line are read last. What binds nothing is above all.
func line(op api.Op) int {
	switch op {
	case api.OpEither, api.OpOr:
		return 1
	case api.OpBoth, api.OpAnd:
		return 2
	case api.OpChild, api.OpBelow, api.OpBeside:
		return 3
	}
	return single
}

const single = 4
