package batch_test

import (
	"encoding/hex"
	"errors"
	"fmt"
	"math"
	"math/rand/v2"
	"slices"
	"strings"
	"testing"

	"spoor/api"
	"spoor/batch"
	"spoor/span"
)

// The chapter's S and T.
func spanS() api.Span {
	return api.Span{Trace: api.TraceID{Lo: 7}, ID: 1, Service: "a", Op: "b", Start: 5, End: 9}
}

func spanT() api.Span {
	return api.Span{
		Trace: api.TraceID{Lo: 7}, ID: 2, Parent: 1, Service: "a", Op: "a", Kind: api.Client, Status: api.Failed, Start: 3, End: 4,
		Attrs: []api.Attr{{Key: "k", Value: api.Value{Kind: api.Int, Int: -3}}},
	}
}

const (
	hexHead = "534201 03 0161 0162 016b 01 00000000000000000000000000000007 02"
	hexS    = "00 0000000000000001 0000000000000000 00 01 00 0a 04 00 00 00"
	hexT    = "00 0000000000000002 0000000000000001 00 00 12 03 01 00 01 020105 00"
)

func unhex(s string) []byte {
	b, err := hex.DecodeString(strings.ReplaceAll(s, " ", ""))
	if err != nil {
		panic(err)
	}
	return b
}

// rich has every kind of field: texts that are spoken of once and again, two traces, links, each kind of value, events.
func rich() []api.Span {
	return []api.Span{
		{
			Trace: api.TraceID{Hi: 1, Lo: 7}, ID: 1, Service: "a", Op: "b", Kind: api.Client, Status: api.Fine, Start: 100, End: 150,
			Links: []api.SpanID{3, 9},
			Attrs: []api.Attr{
				{Key: "flag", Value: api.Value{Kind: api.Bool, Int: 1}},
				{Key: "k", Value: api.Value{Kind: api.Int, Int: -3}},
				{Key: "t", Value: api.Value{Text: "x"}},
			},
			Events: []api.Event{{At: 120, Name: "e"}, {At: 130, Name: "a"}},
		},
		{Trace: api.TraceID{Lo: 8}, ID: 2, Parent: 1, Service: "b", Op: "c", Start: 50, End: 50},
	}
}

// greatest has the most bytes that a span that may be can have; its texts are unlike those of one of another number.
func greatest(number int) api.Span {
	s := api.Span{
		Trace: api.TraceID{Hi: math.MaxUint64, Lo: uint64(number) + 1}, ID: math.MaxUint64, Parent: math.MaxUint64,
		Service: fmt.Sprintf("%060d", number), Op: fmt.Sprintf("%0100d", number), Kind: 4, Status: 2, Start: api.MaxTime, End: api.MaxTime,
	}
	for i := range 16 {
		s.Links = append(s.Links, api.SpanID(i+1)<<59)
	}
	for i := range 32 {
		s.Attrs = append(s.Attrs, api.Attr{Key: fmt.Sprintf("k%019d-%019d", i, number), Value: api.Value{Text: fmt.Sprintf("%0180d%020d", number, i)}})
		s.Events = append(s.Events, api.Event{At: api.MaxTime, Name: fmt.Sprintf("%050d%050d", i, number+1)})
	}
	return s
}

// drawn is a list of spans that may be, of few traces and few texts.
func drawn(r *rand.Rand, many int) []api.Span {
	l := make([]api.Span, 0, many)
	for range many {
		l = append(l, drawnSpan(r))
	}
	return l
}

func drawnSpan(r *rand.Rand) api.Span {
	s := api.Span{
		Trace: api.TraceID{Hi: r.Uint64N(2), Lo: r.Uint64N(3) + 1}, ID: drawnID(r), Parent: api.SpanID(r.Uint64N(3)),
		Service: drawnText(r, "svc"), Op: drawnText(r, "op ö"), Kind: api.Kind(r.IntN(5)), Status: api.Status(r.IntN(3)),
	}
	s.Start = drawnMoment(r)
	s.End = s.Start + r.Int64N(api.MaxTime-s.Start+1)>>r.IntN(63)
	for range r.IntN(4) {
		if id := drawnID(r); id != s.ID {
			s.Links = append(s.Links, id)
		}
	}
	slices.Sort(s.Links)
	s.Links = slices.Compact(s.Links)
	for i := range r.IntN(4) {
		s.Attrs = append(s.Attrs, api.Attr{Key: "k" + string(rune('a'+i)) + drawnText(r, "k"), Value: drawnValue(r)})
	}
	at := drawnMoment(r)
	for i := range r.IntN(4) {
		s.Events = append(s.Events, api.Event{At: at, Name: string(rune('a'+i)) + drawnText(r, "e")})
		at += r.Int64N(api.MaxTime-at+1) >> r.IntN(63)
	}
	return s
}

func drawnID(r *rand.Rand) api.SpanID { return api.SpanID(r.Uint64()>>r.IntN(64)) | 1 }

func drawnMoment(r *rand.Rand) int64 { return r.Int64N(api.MaxTime+1) >> r.IntN(63) }

func drawnText(r *rand.Rand, of string) string { return of + strings.Repeat("x", r.IntN(3)) }

func drawnValue(r *rand.Rand) api.Value {
	switch r.IntN(3) {
	case 0:
		return api.Value{Text: strings.Repeat("x", r.IntN(3)*100)}
	case 1:
		return api.Value{Kind: api.Int, Int: int64(r.Uint64()) >> r.IntN(64)}
	}
	return api.Value{Kind: api.Bool, Int: r.Int64N(2)}
}

// lists are lists of spans that may be, whose batches are not too long.
func lists() [][]api.Span {
	s, second := spanS(), spanS()
	second.End++
	l := [][]api.Span{nil, {}, {s}, {s, spanT()}, {s, s}, {s, second, s}, {spanT(), s}, rich(), {greatest(0)}, {greatest(0), greatest(1), s}}
	r := rand.New(rand.NewPCG(5, 1))
	for many := range 30 {
		l = append(l, drawn(r, many))
	}
	l = append(l, drawn(r, 500))
	return append(l, slices.Repeat([]api.Span{s}, 500), edges())
}

// edges have fields that are at their least and their greatest.
func edges() []api.Span {
	var l []api.Span
	turned := func(turn func(s *api.Span)) {
		s := spanS()
		turn(&s)
		l = append(l, s)
	}
	for _, at := range []int64{0, api.MaxTime, 0, 63, 64, 127, 128, 0} {
		turned(func(s *api.Span) { s.Start, s.End = at, at })
		turned(func(s *api.Span) { s.Start, s.End = 0, at })
		turned(func(s *api.Span) { s.Events = []api.Event{{At: 0, Name: "a"}, {At: at, Name: "b"}} })
	}
	for _, n := range []int64{0, -1, 63, -64, 64, -65, math.MaxInt64, math.MinInt64} {
		turned(func(s *api.Span) { s.Attrs = []api.Attr{{Key: "k", Value: api.Value{Kind: api.Int, Int: n}}} })
	}
	for _, text := range []string{"", "a", "\x00", strings.Repeat("t", 127), strings.Repeat("t", 128), strings.Repeat("ö", 100)} {
		turned(func(s *api.Span) { s.Attrs = []api.Attr{{Key: "k", Value: api.Value{Text: text}}} })
	}
	for v := range int64(2) {
		turned(func(s *api.Span) { s.Attrs = []api.Attr{{Key: "k", Value: api.Value{Kind: api.Bool, Int: v}}} })
	}
	for kind := range api.Kind(5) {
		for status := range api.Status(3) {
			turned(func(s *api.Span) { s.Kind, s.Status = kind, status })
		}
	}
	turned(func(s *api.Span) { s.Links = []api.SpanID{math.MaxUint64} })
	turned(func(s *api.Span) { s.Links = []api.SpanID{2, math.MaxUint64} })
	turned(func(s *api.Span) { s.ID, s.Parent = 1<<63+2, math.MaxUint64 })
	turned(func(s *api.Span) { s.Trace = api.TraceID{Hi: 7} })
	return l
}

func encoded(t *testing.T, l []api.Span) []byte {
	t.Helper()
	b, err := batch.Encode(l)
	if err != nil {
		t.Fatalf("Encode: %v", err)
	}
	return b
}

func sameSpans(a, b []api.Span) bool { return slices.EqualFunc(a, b, span.Equal) }

// refused: is the error an *api.Fault of this number at this place, with nothing beside it?
func refused[T any](t *testing.T, what string, l []T, err error, at int, e api.Errno) {
	t.Helper()
	f, ok := err.(*api.Fault)
	if !ok || f == nil || f.At != at || f.Err != e || !errors.Is(err, e) {
		t.Errorf("%s: %v, not %v at %d", what, err, e, at)
	}
	if len(l) != 0 {
		t.Errorf("%s: beside the error %v", what, l)
	}
}

func refusesBytes(t *testing.T, what string, b []byte, at int, e api.Errno) {
	t.Helper()
	l, err := batch.Decode(b)
	refused(t, what, l, err, at, e)
}

func refusesSpans(t *testing.T, what string, l []api.Span, at int, e api.Errno) {
	t.Helper()
	b, err := batch.Encode(l)
	refused(t, what, b, err, at, e)
}

func TestExamples(t *testing.T) {
	both := unhex(hexHead + hexS + hexT)
	for _, c := range []struct {
		l    []api.Span
		want []byte
	}{
		{nil, unhex("534201 00 00 00")},
		{[]api.Span{spanS(), spanT()}, both},
	} {
		if b := encoded(t, c.l); string(b) != string(c.want) {
			t.Errorf("%x, not %x", b, c.want)
		}
		if l, err := batch.Decode(c.want); err != nil || !sameSpans(l, c.l) {
			t.Errorf("%+v %v", l, err)
		}
	}
	if len(both) != 81 || len(encoded(t, []api.Span{spanS()})) != 51 {
		t.Errorf("%d bytes, %d of S alone", len(both), len(encoded(t, []api.Span{spanS()})))
	}
	refusesBytes(t, "a text twice", unhex("534201 02 0161 0161"), 6, api.ErrBatchName)
	refusesBytes(t, "a text of which nothing speaks", unhex("534201 01 0161 00 00"), 4, api.ErrBatchName)
	refusesBytes(t, "501 spans", unhex("534201 00 00 f503"), 5, api.ErrBatchMany)
	refusesBytes(t, "40 bytes", both[:40], 40, api.ErrWireEnd)
	refusesBytes(t, "a byte behind", append(slices.Clone(both), 0), 81, api.ErrWireRest)
	refusesBytes(t, "an ID of 0", unhex(hexHead+strings.Replace(hexS, "01", "00", 1)+hexT), 28, api.ErrSpanID)

	none := spanS()
	none.ID = 0
	refusesSpans(t, "S and two of ID 0", []api.Span{spanS(), none, none}, 1, api.ErrSpanID)
	refusesSpans(t, "501 of ID 0", slices.Repeat([]api.Span{none}, 501), 500, api.ErrBatchMany)
}

// P5.1, and that the bytes are those of the chapter.
func TestThereAndBack(t *testing.T) {
	for i, l := range lists() {
		b := encoded(t, l)
		if want := spelt(pieces(l)); string(b) != want {
			t.Errorf("list %d: %x, not %x", i, b, want)
		}
		back, err := batch.Decode(b)
		if err != nil || !sameSpans(back, l) {
			t.Errorf("list %d: %+v %v, not %+v", i, back, err, l)
		}
	}
}

func TestNilAndEmptyListsAreTheSame(t *testing.T) {
	empty := spanS()
	empty.Links, empty.Attrs, empty.Events = []api.SpanID{}, []api.Attr{}, []api.Event{}
	if a, b := encoded(t, []api.Span{spanS()}), encoded(t, []api.Span{empty}); string(a) != string(b) {
		t.Errorf("%x and %x", a, b)
	}
	if a := encoded(t, []api.Span{}); string(a) != "SB\x01\x00\x00\x00" {
		t.Errorf("%x", a)
	}
}

// P5.2: whatever Decode takes is what Encode writes.
func TestOneForm(t *testing.T) {
	taken := 0
	for _, b := range spoiltBatches() {
		l, err := batch.Decode(b)
		if err != nil {
			continue
		}
		taken++
		if back, err := batch.Encode(l); err != nil || string(back) != string(b) {
			t.Fatalf("%x was taken, and is %x %v", b, back, err)
		}
	}
	if taken < 1000 {
		t.Errorf("only %d were taken", taken)
	}
}

// P5.4.
func TestLonger(t *testing.T) {
	for i, l := range lists() {
		ahead := 0
		for n := range len(l) + 1 {
			b := encoded(t, l[:n])
			if len(b) <= ahead {
				t.Errorf("list %d: %d bytes of %d spans, %d of one less", i, len(b), n, ahead)
			}
			ahead = len(b)
		}
	}
}

func TestEncodeTellsSpansThatMayNotBe(t *testing.T) {
	wrongs := []struct {
		e    api.Errno
		turn func(s *api.Span)
	}{
		{api.ErrSpanID, func(s *api.Span) { s.Trace = api.TraceID{} }},
		{api.ErrSpanTime, func(s *api.Span) { s.End = s.Start - 1 }},
		{api.ErrSpanName, func(s *api.Span) { s.Service = "" }},
		{api.ErrSpanKind, func(s *api.Span) { s.Kind = 5 }},
		{api.ErrSpanLinks, func(s *api.Span) { s.Links = []api.SpanID{0} }},
		{api.ErrSpanAttrs, func(s *api.Span) { s.Attrs = []api.Attr{{Key: "A"}} }},
		{api.ErrSpanEvents, func(s *api.Span) { s.Events = []api.Event{{At: -1, Name: "e"}} }},
	}
	for i, w := range wrongs {
		l := []api.Span{spanS(), spanT(), spanS(), spanS()}
		w.turn(&l[2])
		refusesSpans(t, "the third one", l, 2, w.e)
		for _, later := range wrongs[i:] {
			later.turn(&l[2])
		}
		wrongs[0].turn(&l[3])
		refusesSpans(t, "the third one, in several ways, and the fourth", l, 2, w.e)
		w.turn(&l[0])
		refusesSpans(t, "the first one too", l, 0, w.e)
	}
}

func TestEncodeOfTooManySpans(t *testing.T) {
	for _, many := range []int{501, 502, 1000} {
		refusesSpans(t, "S", slices.Repeat([]api.Span{spanS()}, many), 500, api.ErrBatchMany)
		refusesSpans(t, "none may be", make([]api.Span, many), 500, api.ErrBatchMany)
		refusesSpans(t, "too long as well", slices.Repeat([]api.Span{greatest(0)}, many), 500, api.ErrBatchMany)
	}
}

// sized is a list whose batch would have so many bytes: the greatest spans, and smaller ones that fill what these leave.
func sized(t *testing.T, want int) []api.Span {
	t.Helper()
	var l []api.Span
	size := func(s api.Span) int { return len(spelt(pieces(append(l, s)))) }
	filler := func(length int) api.Span {
		s := spanS()
		s.Attrs = []api.Attr{{Key: "k", Value: api.Value{Text: fmt.Sprintf("%0*d", length, 100+len(l))}}}
		return s
	}
	for size(greatest(len(l))) < want {
		l = append(l, greatest(len(l)))
	}
	for size(filler(200)) < want {
		l = append(l, filler(100))
	}
	for length := 3; length <= 200; length++ {
		if size(filler(length)) == want {
			return append(l, filler(length))
		}
	}
	t.Fatalf("none of %d bytes", want)
	return nil
}

func TestLongestBatch(t *testing.T) {
	l := sized(t, 65536)
	b := encoded(t, l)
	if back, err := batch.Decode(b); len(b) != 65536 || err != nil || !sameSpans(back, l) {
		t.Errorf("%d bytes: %v", len(b), err)
	}
	refusesBytes(t, "with a byte behind", append(b, 0), 0, api.ErrBatchLong)

	l = sized(t, 65537)
	refusesSpans(t, "one more", l, 0, api.ErrBatchLong)
	refusesBytes(t, "one more", []byte(spelt(pieces(l))), 0, api.ErrBatchLong)
	l[len(l)-1].ID = 0
	refusesSpans(t, "one more, and the last one may not be", l, len(l)-1, api.ErrSpanID)

	most := make([]api.Span, 0, 500)
	for i := range 500 {
		most = append(most, greatest(i))
	}
	refusesSpans(t, "as much as can be", most, 0, api.ErrBatchLong)
}

// roomy has lists with something in the room behind them.
func roomy(l []api.Span) []api.Span {
	c := make([]api.Span, 0, len(l)+1)
	for _, s := range l {
		s.Links = append(append(make([]api.SpanID, 0, len(s.Links)+2), s.Links...), 91, 92)[:len(s.Links)]
		s.Attrs = append(append(make([]api.Attr, 0, len(s.Attrs)+1), s.Attrs...), api.Attr{Key: "room"})[:len(s.Attrs)]
		s.Events = append(append(make([]api.Event, 0, len(s.Events)+1), s.Events...), api.Event{Name: "room"})[:len(s.Events)]
		c = append(c, s)
	}
	return append(c, api.Span{Service: "room"})[:len(l)]
}

// whole tells a list of spans with all that stands behind it and its lists.
func whole(l []api.Span) string {
	l = l[:cap(l)]
	var b strings.Builder
	for _, s := range l {
		fmt.Fprintf(&b, "%+v %+v %+v %+v\n", s, s.Links[:cap(s.Links)], s.Attrs[:cap(s.Attrs)], s.Events[:cap(s.Events)])
	}
	return b.String()
}

func TestNothingIsWrittenInto(t *testing.T) {
	for i, l := range lists() {
		l = roomy(l)
		before := whole(l)
		b := append(encoded(t, l), "room"...)
		n := len(b) - 4
		if whole(l) != before {
			t.Errorf("list %d: Encode wrote into it", i)
		}
		same := string(b)
		batch.Decode(b[:n])
		batch.Decode(b[:n/2])
		if string(b) != same {
			t.Errorf("list %d: Decode wrote into its bytes", i)
		}
	}
}

// scribble writes into a span's lists and what stands behind them.
func scribble(s api.Span) {
	for i := range s.Links[:cap(s.Links)] {
		s.Links[:cap(s.Links)][i] = 77
	}
	for i := range s.Attrs[:cap(s.Attrs)] {
		s.Attrs[:cap(s.Attrs)][i] = api.Attr{Key: "scribble"}
	}
	for i := range s.Events[:cap(s.Events)] {
		s.Events[:cap(s.Events)][i] = api.Event{Name: "scribble"}
	}
}

func TestAnswersShareNothing(t *testing.T) {
	for i, l := range lists() {
		b := encoded(t, l)
		want := string(b)
		other := encoded(t, l)
		for j := range other[:cap(other)] {
			other[:cap(other)][j] = 0xee
		}
		if string(b) != want {
			t.Fatalf("list %d: two answers of Encode share bytes", i)
		}
		one, err := batch.Decode(b)
		two, err2 := batch.Decode(b)
		if err != nil || err2 != nil {
			t.Fatal(err, err2)
		}
		clear(b[:cap(b)])
		if !sameSpans(one, l) {
			t.Fatalf("list %d: Decode keeps the bytes", i)
		}
		before := whole(one)
		for _, s := range two {
			scribble(s)
		}
		clear(two[:cap(two)])
		if whole(one) != before {
			t.Fatalf("list %d: two answers of Decode share memory", i)
		}
		for j := range one {
			scribble(one[j])
			if !sameSpans(one[j+1:], l[j+1:]) {
				t.Fatalf("list %d: the span %d shares memory with those behind it", i, j)
			}
		}
	}
}

func TestEncodeKeepsNothing(t *testing.T) {
	l := rich()
	b := encoded(t, l)
	for _, s := range l {
		scribble(s)
	}
	if back, err := batch.Decode(b); err != nil || !sameSpans(back, rich()) {
		t.Errorf("%+v %v", back, err)
	}
}

func TestFaultsAreApart(t *testing.T) {
	_, err := batch.Decode(nil)
	err.(*api.Fault).At = 9
	refusesBytes(t, "again", nil, 0, api.ErrBatchHead)
}
