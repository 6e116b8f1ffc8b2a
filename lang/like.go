package lang

import (
	"unicode/utf8"
)

// Like tells whether a text is as a pattern says.
func Like(pattern string, s string) bool {
	piece, rest, star := cutStar(pattern)
	at, ok := through(piece, s, 0)
	if !star {
		return ok && at == len(s)
	}
	for ok {
		piece, rest, star = cutStar(rest)
		if !star {
			return endsWith(piece, s, at)
		}
		at, ok = soonest(piece, s, at)
	}
	return false
}

// cutStar cuts a pattern at its first star that stands for any bytes.
func cutStar(pattern string) (ahead string, behind string, is bool) {
	for i := 0; i < len(pattern); i++ {
		switch pattern[i] {
		case '\\':
			i++
		case '*':
			return pattern[:i], pattern[i+1:], true
		}
	}
	return pattern, "", false
}

// through is where a piece of a pattern, in which there is no star, ends in s, if it begins at a place.
func through(piece, s string, at int) (int, bool) {
	for i := 0; i < len(piece); i++ {
		if at == len(s) {
			return 0, false
		}
		width := 1
		switch c := piece[i]; {
		case c == '?':
			_, width = utf8.DecodeRuneInString(s[at:])
		case c == '\\' && i+1 < len(piece):
			i++
			fallthrough
		default:
			if s[at] != piece[i] {
				return 0, false
			}
		}
		at += width
	}
	return at, true
}

// soonest is the first of the places in s at which a piece ends that begins somewhere from a place on. That need not be the end of the one that begins first: a `?` within a rune takes a byte of it, one ahead of it all of them.
func soonest(piece, s string, from int) (int, bool) {
	first := len(s) + 1
	for at := from; at < first; at++ {
		if end, ok := through(piece, s, at); ok {
			first = min(first, end)
		}
	}
	return first, first <= len(s)
}

// endsWith tells whether a piece that begins somewhere from a place on ends where s does. No byte of a piece stands for more than a rune's bytes.
func endsWith(piece, s string, from int) bool {
	for at := max(from, len(s)-utf8.UTFMax*len(piece)); at <= len(s); at++ {
		if end, ok := through(piece, s, at); ok && end == len(s) {
			return true
		}
	}
	return false
}
