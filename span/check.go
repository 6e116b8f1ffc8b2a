package span

import (
	"cmp"
	"strings"
	"unicode/utf8"

	"spoor/api"
)

// The least bytes of plain texts, and the one above them that is no sign either.
const (
	withBlanks = 32
	noBlanks   = 33
	rubout     = 127
)

const (
	keyFirst = "abcdefghijklmnopqrstuvwxyz"
	keyRest  = keyFirst + "0123456789._-"
)

// Check tells what is wrong with a span.
func Check(s api.Span) api.Errno {
	switch {
	case s.Trace == api.TraceID{} || s.ID == 0:
		return api.ErrSpanID
	case !momentMayBe(s.Start) || !momentMayBe(s.End) || s.Start > s.End:
		return api.ErrSpanTime
	case !plain(s.Service, api.MaxName, noBlanks) || !plain(s.Op, api.MaxOp, withBlanks):
		return api.ErrSpanName
	case s.Kind < api.Internal || s.Kind > api.Consumer || s.Status < api.Unset || s.Status > api.Failed:
		return api.ErrSpanKind
	case !linksMayBe(s.Links, s.ID):
		return api.ErrSpanLinks
	case !attrsMayBe(s.Attrs):
		return api.ErrSpanAttrs
	case !eventsMayBe(s.Events):
		return api.ErrSpanEvents
	}
	return api.OK
}

func momentMayBe(at int64) bool { return at >= 0 && at <= api.MaxTime }

// plain tells whether a text has 1 to most bytes and is plain from least on.
func plain(s string, most int, least byte) bool {
	if len(s) < 1 || len(s) > most || !utf8.ValidString(s) {
		return false
	}
	for i := range len(s) {
		if s[i] < least || s[i] == rubout {
			return false
		}
	}
	return true
}

func linksMayBe(l []api.SpanID, own api.SpanID) bool {
	if len(l) > api.MaxLinks || !rise(l, cmp.Compare[api.SpanID]) {
		return false
	}
	for _, id := range l {
		if id == 0 || id == own {
			return false
		}
	}
	return true
}

func attrsMayBe(l []api.Attr) bool {
	if len(l) > api.MaxAttrs || !rise(l, keyAgainst) {
		return false
	}
	for _, a := range l {
		if !keyMayBe(a.Key) || !valueMayBe(a.Value) {
			return false
		}
	}
	return true
}

func keyMayBe(key string) bool {
	if len(key) < 1 || len(key) > api.MaxKey || strings.IndexByte(keyFirst, key[0]) < 0 {
		return false
	}
	for i := 1; i < len(key); i++ {
		if strings.IndexByte(keyRest, key[i]) < 0 {
			return false
		}
	}
	return true
}

func valueMayBe(v api.Value) bool {
	switch v.Kind {
	case api.Text:
		return v.Int == 0 && len(v.Text) <= api.MaxText && utf8.ValidString(v.Text)
	case api.Int:
		return v.Text == ""
	case api.Bool:
		return v.Text == "" && (v.Int == 0 || v.Int == 1)
	}
	return false
}

func eventsMayBe(l []api.Event) bool {
	if len(l) > api.MaxEvents || !rise(l, eventAgainst) {
		return false
	}
	for _, e := range l {
		if !momentMayBe(e.At) || !plain(e.Name, api.MaxOp, withBlanks) {
			return false
		}
	}
	return true
}

// rise tells whether each one is above the one ahead.
func rise[T any](l []T, against func(a, b T) int) bool {
	for i := 1; i < len(l); i++ {
		if against(l[i-1], l[i]) >= 0 {
			return false
		}
	}
	return true
}
