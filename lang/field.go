package lang

import (
	"slices"
	"strings"
	"unicode/utf8"

	"spoor/api"
)

// field says which operators and which values a field takes.
type field int

const (
	noField field = iota
	textField
	kindField
	statusField
	timeField   // how long something took: its numbers are written as durations
	momentField // its numbers may be read as durations
	countField
	truthField
	keyField
)

func fieldOf(name string) field {
	switch name {
	case "service", "op":
		return textField
	case "kind":
		return kindField
	case "status":
		return statusField
	case "dur", "self", "total":
		return timeField
	case "start":
		return momentField
	case "depth", "events", "links":
		return countField
	case "root", "born", "orphan", "looped", "leaf":
		return truthField
	}
	if key, is := strings.CutPrefix(name, "."); is && keyMayBe(key) {
		return keyField
	}
	return noField
}

// takes tells whether the field takes an operator, be it with some values only.
func (f field) takes(op api.Op) bool {
	switch f {
	case textField, keyField:
		return op >= api.OpEq && op <= api.OpLike
	case timeField, momentField, countField:
		return op >= api.OpEq && op <= api.OpGe
	case kindField, statusField, truthField:
		return op == api.OpEq || op == api.OpNe
	}
	return false
}

// with is the field that a key is like, by the value that it is compared with; all others are what they are.
func (f field) with(v api.Value) field {
	if f != keyField {
		return f
	}
	switch v.Kind {
	case api.Text:
		return textField
	case api.Int:
		return countField
	case api.Bool:
		return truthField
	}
	return noField
}

// allows tells whether the field may be compared so.
func (f field) allows(op api.Op, v api.Value) bool {
	f = f.with(v)
	if !f.takes(op) || v.Kind != f.valueKind() {
		return false
	}
	switch f {
	case textField:
		return v.Int == 0 && len(v.Text) <= api.MaxText && utf8.ValidString(v.Text)
	case kindField, statusField, truthField:
		return v.Text == "" && v.Int >= 0 && v.Int < int64(len(f.words()))
	}
	return v.Text == ""
}

// valueKind is that of the values of a field that is no key.
func (f field) valueKind() api.ValueKind {
	switch f {
	case textField:
		return api.Text
	case truthField:
		return api.Bool
	}
	return api.Int
}

// words are those that its values are written as, each at its value's Int.
func (f field) words() []string {
	switch f {
	case kindField:
		return []string{"internal", "server", "client", "producer", "consumer"}
	case statusField:
		return []string{"unset", "fine", "failed"}
	case truthField:
		return []string{"false", "true"}
	}
	return nil
}

// word is the value that a word stands for.
func (f field) word(s string) (api.Value, bool) {
	if f == keyField {
		f = truthField
	}
	i := slices.Index(f.words(), s)
	if i < 0 {
		return api.Value{}, false
	}
	return api.Value{Kind: f.valueKind(), Int: int64(i)}, true
}

// number is the value that a number token stands for.
func (f field) number(s string) (api.Value, bool) {
	n, duration, ok := readNumber(s)
	switch f {
	case timeField, momentField, keyField:
		return api.Value{Kind: api.Int, Int: n}, ok
	case countField:
		return api.Value{Kind: api.Int, Int: n}, ok && !duration
	}
	return api.Value{}, false
}

// written is a value as a token.
func (f field) written(v api.Value) string {
	switch f = f.with(v); f {
	case textField:
		return quoted(v.Text)
	case kindField, statusField, truthField:
		return f.words()[v.Int]
	case timeField:
		return durationOf(v.Int)
	}
	return digitsOf(v.Int)
}

// quoted is a text as a token; the second signs must not be taken for a text's own.
func quoted(s string) string {
	s = strings.ReplaceAll(s, `\`, `\\`)
	return `"` + strings.ReplaceAll(s, `"`, `\"`) + `"`
}
