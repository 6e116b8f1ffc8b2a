package lang_test

import (
	"strings"
	"testing"
	"unicode/utf8"

	"spoor/lang"
)

// plainLike tries all ways in which a pattern may be gone along.
func plainLike(p, s string) bool {
	if p == "" {
		return s == ""
	}
	c := p[0]
	switch {
	case c == '*':
		for i := range len(s) + 1 {
			if plainLike(p[1:], s[i:]) {
				return true
			}
		}
		return false
	case c == '?':
		return s != "" && plainLike(p[1:], s[runeAt(s, 0):])
	case c == '\\' && len(p) > 1:
		p = p[1:]
	}
	return s != "" && s[0] == p[0] && plainLike(p[1:], s[1:])
}

// runeAt: how many bytes the rune has that begins at a place; 1, if none does.
func runeAt(s string, at int) int {
	for n := 1; n <= 4 && at+n <= len(s); n++ {
		if utf8.ValidString(s[at:at+n]) && utf8.RuneCountInString(s[at:at+n]) == 1 {
			return n
		}
	}
	return 1
}

// every text of so many parts at most.
func every(most int, parts ...string) []string {
	l := []string{""}
	for i := 0; most > 0; most-- {
		for end := len(l); i < end; i++ {
			for _, p := range parts {
				l = append(l, l[i]+p)
			}
		}
	}
	return l
}

func TestLike(t *testing.T) {
	for _, x := range []struct {
		p, s string
		want bool
	}{
		{"", "", true}, {"", "a", false}, {"a", "", false}, {"a", "a", true}, {"a", "b", false}, {"a", "aa", false}, {"aa", "a", false}, {"é", "é", true},
		{"*", "", true}, {"*", "abc\n\xff", true}, {"**", "", true}, {"a*", "a", true}, {"a*", "ba", false}, {"*a", "ba", true}, {"*a", "ab", false}, {"a*b", "ab", true}, {"a*b", "axxb", true}, {"a*a", "a", false}, {"*ab*", "xabx", true}, {"*ab*", "xaxb", false}, {"a*b*c", "aXbYc", true}, {"a*b*c", "acb", false}, {"*aab", "aaaab", true}, {"*b*b", "ab", false},
		{"?", "", false}, {"?", "a", true}, {"?", "ab", false}, {"?", "é", true}, {"??", "é", false}, {"?", "😀", true}, {"????", "😀", false}, {"?", "\xff", true}, {"??", "\xff\xfe", true}, {"?", "\xc3", true}, {"?", "\xc3\xa9\xa9", false}, {"??", "\xc3\xa9\xa9", true}, {"?", "\xed\xa0\x80", false}, {"???", "\xed\xa0\x80", true}, {"?", "\uFFFD", true}, {"a?c", "aéc", true}, {"?\n", "\n\n", true},
		{`\*`, "*", true}, {`\*`, "x", false}, {`\*`, `\*`, false}, {`\?`, "?", true}, {`\?`, "a", false}, {`\\`, `\`, true}, {`\\`, `\\`, false}, {`\a`, "a", true}, {`\a`, `\a`, false}, {`\`, `\`, true}, {`a\`, `a\`, true}, {`\\\`, `\\`, true}, {`*\`, `ab\`, true}, {`*\*`, "ab*", true}, {`*\*`, "ab", false}, {`\\*`, `\abc`, true}, {`\é`, "é", true}, {`\`, "", false}, {`\`, "a", false},
		{"a*c?", "abcé", true}, {"a*c?", "abc", false}, {"[a]", "[a]", true}, {"[a]", "a", false}, {".", "a", false}, {"A", "a", false},
		{"*?", "é", true}, {"*??", "é", false}, {"*\xa9", "é", true}, {"\xc3*", "é", true}, {"\xc3?", "é", true}, // a star, or a byte, may end within a rune; there none begins
		{"*?*\x98\x80", "😀", true}, {"?*\x98\x80", "😀", false}, {"*?*\x9f\x98\x80", "😀", false}, {"*??*\x80", "😀", true}, {"*???*\x80", "😀", false}, {"a*?*\x80b", "a😀b", true},
	} {
		if lang.Like(x.p, x.s) != x.want || plainLike(x.p, x.s) != x.want {
			t.Errorf("Like(%q, %q) is not %v", x.p, x.s, x.want)
		}
	}
}

func TestLikeModel(t *testing.T) {
	for _, x := range []struct{ patterns, texts []string }{
		{every(4, "a", "*", "?", `\`, "\xc3", "\xa9"), every(4, "a", "*", `\`, "\xc3", "\xa9")},
		{every(6, "a", "b", "*"), every(6, "a", "b")},
		{every(5, "*", "?", "\xf0", "\x9f", "\x98", "\x80"), []string{"😀", "😀😀", "\x98😀\x98\x80", "😀\xf0\x9f\x98", "\xf0\x9f\x98", "\x9f\x98\x80", "\xf0\x9f\x98😀"}},
	} {
		for _, p := range x.patterns {
			for _, s := range x.texts {
				if want := plainLike(p, s); lang.Like(p, s) != want {
					t.Fatalf("Like(%q, %q) is not %v", p, s, want)
				}
			}
		}
	}
}

// P16.6: texts are like themselves alone, as they are, or with signs ahead of what is none of itself; a star is like all.
func TestLikeItself(t *testing.T) {
	signs := strings.NewReplacer("*", `\*`, "?", `\?`, `\`, `\\`)
	l := every(4, "a", "é", "*", "?", `\`, "\xff")
	for _, p := range l {
		if !lang.Like("*", p) || !lang.Like(signs.Replace(p), p) {
			t.Fatalf("%q", p)
		}
		for _, s := range l {
			if !strings.ContainsAny(p, `*?\`) && lang.Like(p, s) != (p == s) {
				t.Fatalf("Like(%q, %q) is %v", p, s, p != s)
			}
			if lang.Like(signs.Replace(p), s) != (p == s) {
				t.Fatalf("Like(%q, %q) is %v", signs.Replace(p), s, p != s)
			}
		}
	}
}

// P16.6: with a star behind it a pattern is like what has a beginning that it is like.
func TestLikeBeginnings(t *testing.T) {
	for _, p := range every(3, "a", "*", "?", `\`, "é", "\xc3") {
		starred := p + "*"
		if signs := len(p) - len(strings.TrimRight(p, `\`)); signs%2 == 1 {
			starred = p + `\*`
		}
		for _, s := range every(4, "a", "é", "*", `\`, "\xc3") {
			some, whole := false, false
			for end := range len(s) + 1 {
				if lang.Like(p, s[:end]) {
					some = true
					whole = whole || !cut(s, end)
				}
			}
			if got := lang.Like(starred, s); whole && !got || !some && got {
				t.Fatalf("Like(%q, %q) is %v", starred, s, got)
			}
		}
	}
}

// cut: does a place lie within a rune?
func cut(s string, at int) bool {
	for i := range at {
		if i+runeAt(s, i) > at {
			return true
		}
	}
	return false
}

// Patterns with many stars are gone along soon.
func TestLikeLong(t *testing.T) {
	a, grin := strings.Repeat("a", 20000), strings.Repeat("😀", 5000)
	for _, x := range []struct {
		p, s string
		want bool
	}{
		{strings.Repeat("*a", 1000), a, true}, {strings.Repeat("*a", 1000) + "b", a, false}, {strings.Repeat("a*", 1000) + "b", a, false}, {strings.Repeat("*", 100000), a, true}, {strings.Repeat("*", 100000) + "b", a, false}, {strings.Repeat("*?", 2000), grin, true}, {strings.Repeat("?", 5000), grin, true}, {strings.Repeat("?", 5001), grin, false}, {strings.Repeat("*?", 20001), grin, false}, {"*" + strings.Repeat("?", 1000) + "*b", grin, false}, {strings.Repeat("*ab", 500), strings.Repeat("ab", 500), true}, {strings.Repeat("*ab", 501), strings.Repeat("ab", 500), false},
	} {
		if lang.Like(x.p, x.s) != x.want {
			t.Errorf("Like(%.20q.., %.20q..) is %v", x.p, x.s, !x.want)
		}
	}
}
