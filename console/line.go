package console

import (
	"strconv"
	"strings"

	"spoor/api"
)

const (
	nameMost = 16 // bytes of a name
	byteMost = 255
)

// line has the fields of a line that are not taken yet. A field that is not there, or not of its form, is given up.
type line struct {
	fields []string
}

// lineOf is a text as a line.
func lineOf(text string) *line {
	if len(text) > api.MaxLine {
		giveUp(api.ErrConsoleLong)
	}
	if strings.IndexByte(text, '\n') >= 0 {
		giveUp(api.ErrConsoleLine)
	}
	return &line{strings.FieldsFunc(text, isBlank)}
}

// isBlank knows one blank alone: a tab is part of a field.
func isBlank(c rune) bool { return c == ' ' }

// idle tells whether a line does nothing.
func (l *line) idle() bool { return len(l.fields) == 0 || l.fields[0][0] == '#' }

// expect gives a line up of which something is not as it must be.
func expect(is bool) {
	if !is {
		giveUp(api.ErrConsoleLine)
	}
}

// end finds nothing left.
func (l *line) end() { expect(len(l.fields) == 0) }

// field takes any field. It is new memory: what is kept of it must not be the caller's, nor hold his whole line.
func (l *line) field() string {
	expect(len(l.fields) > 0)
	f := l.fields[0]
	l.fields = l.fields[1:]
	return strings.Clone(f)
}

// rest takes all fields that are left, one at least, as one text.
func (l *line) rest() string {
	text := l.field()
	for len(l.fields) > 0 {
		text += " " + l.field()
	}
	return text
}

func (l *line) name() string {
	name := l.field()
	expect(len(name) <= nameMost && isLetter(name[0]))
	for i := range len(name) {
		expect(isLetter(name[i]) || isDigit(name[i]) || name[i] == '-')
	}
	return name
}

// names takes all fields that are left, perhaps none.
func (l *line) names() []string {
	var names []string
	for len(l.fields) > 0 {
		names = append(names, l.name())
	}
	return names
}

// number takes a number, which has just one form: the one in which it is written.
func (l *line) number() int64 {
	digits := l.field()
	n, err := strconv.ParseInt(digits, 10, 64)
	expect(err == nil && n >= 0 && strconv.FormatInt(n, 10) == digits)
	return n
}

// count takes a number, where the call wants an int.
func (l *line) count() int { return int(l.number()) }

// counts takes all fields that are left, perhaps none.
func (l *line) counts() []int {
	var counts []int
	for len(l.fields) > 0 {
		counts = append(counts, l.count())
	}
	return counts
}

func (l *line) byte() byte {
	n := l.number()
	expect(n <= byteMost)
	return byte(n)
}

func (l *line) bit() int64 {
	n := l.number()
	expect(n <= 1)
	return n
}

func (l *line) hex() []byte {
	b, is := fromHex(l.field())
	expect(is)
	return b
}

func (l *line) how() api.How {
	how := l.field()
	expect(how == "stop" || how == "fail")
	if how == "stop" {
		return api.Stop
	}
	return api.Fail
}

// value takes an attribute's value: the word that says of which kind it is, and what this kind has.
func (l *line) value() api.Value {
	switch l.field() {
	case "text":
		return api.Value{Kind: api.Text, Text: l.rest()}
	case "int":
		return api.Value{Kind: api.Int, Int: l.number()}
	case "bool":
		return api.Value{Kind: api.Bool, Int: l.bit()}
	}
	panic(gaveUp{api.ErrConsoleLine})
}

func isLetter(c byte) bool { return 'a' <= c && c <= 'z' }
func isDigit(c byte) bool  { return '0' <= c && c <= '9' }
