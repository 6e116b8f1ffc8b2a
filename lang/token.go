package lang

import (
	"strings"
	"unicode/utf8"

	"spoor/api"
)

// sort says what a token is.
type sort int

const (
	noToken sort = iota // bytes that are none
	theEnd              // of the text: behind it there is nothing
	aSign
	aWord
	aKey
	aNumber // a duration too
	aText
)

// token of a query's text. Its bytes tell signs, words, keys, numbers and TEXTs apart from one another, as they begin by other ones.
type token struct {
	at     int // its place
	sort   sort
	bytes  string // as they stand there
	stands string // of a TEXT: what it stands for
}

func (t token) fault(e api.Errno) gaveUp { return gaveUp{&api.Fault{At: t.at, Err: e}} }

// tokensOf cuts a text. The last one is the end, or what is none: how it would go on behind that is of no use to anybody.
func tokensOf(s string) []token {
	var l []token
	behind := 0 // the token that was cut last
	for at, r := range s {
		if at < behind || isBlank(r) {
			continue
		}
		t := firstOf(s[at:], r)
		t.at = at
		l = append(l, t)
		if t.sort == noToken {
			return l
		}
		behind = at + len(t.bytes)
	}
	return append(l, token{at: len(s), sort: theEnd})
}

// firstOf is the token that a text begins with, by its first rune.
func firstOf(s string, r rune) token {
	switch {
	case isLetter(r):
		return token{sort: aWord, bytes: s[:run(s, isLetter)]}
	case r == '.':
		return keyOf(s)
	case r == '-' || isDigit(r):
		return numberOf(s)
	case r == '"':
		return textOf(s)
	}
	return signOf(s)
}

// run is how many bytes the runes at a text's front have that are of a kind.
func run(s string, is func(rune) bool) int {
	for i, r := range s {
		if !is(r) {
			return i
		}
	}
	return len(s)
}

func isBlank(r rune) bool { return r == ' ' || r == '\t' || r == '\n' || r == '\r' }

func isLetter(r rune) bool { return r >= 'a' && r <= 'z' }

func isDigit(r rune) bool { return r >= '0' && r <= '9' }

func isOfKeys(r rune) bool {
	return isLetter(r) || isDigit(r) || r == '.' || r == '_' || r == '-'
}

// keyMayBe tells whether an attribute may have this key.
func keyMayBe(key string) bool {
	return len(key) >= 1 && len(key) <= api.MaxKey && isLetter(rune(key[0])) && run(key, isOfKeys) == len(key)
}

func keyOf(s string) token {
	end := 1 + run(s[1:], isOfKeys)
	if !keyMayBe(s[1:end]) {
		return token{}
	}
	return token{sort: aKey, bytes: s[:end]}
}

func numberOf(s string) token {
	digits := strings.TrimPrefix(s, "-")
	n := run(digits, isDigit)
	end := len(s) - len(digits) + n
	end += run(s[end:], isLetter)
	_, unit := cutNumber(s[:end])
	if n == 0 || n > 1 && digits[0] == '0' || unit != "" && nanosOf(unit) == 0 {
		return token{}
	}
	return token{sort: aNumber, bytes: s[:end]}
}

// textOf ends at the first quote that is no sign. One of the bytes that are no UTF-8 would be told as another rune: so all of them are asked at the end.
func textOf(s string) token {
	var stands strings.Builder
	escaped := false
	for i, r := range s[1:] {
		switch {
		case !escaped && r == '"':
			t := token{sort: aText, bytes: s[:i+2], stands: stands.String()}
			if !utf8.ValidString(t.bytes) {
				return token{}
			}
			return t
		case !escaped && r == '\\':
			escaped = true
			continue
		case escaped && r != '"' && r != '\\':
			return token{}
		}
		stands.WriteRune(r)
		escaped = false
	}
	return token{}
}

// signOf looks for the longer ones first.
func signOf(s string) token {
	for _, sign := range [...]string{"||", "&&", ">>", "!=", "<=", ">=", "=~", "{", "}", "(", ")", "|", ">", "~", "=", "<"} {
		if strings.HasPrefix(s, sign) {
			return token{sort: aSign, bytes: sign}
		}
	}
	return token{}
}
