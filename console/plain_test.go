package console_test

import (
	"bytes"
	"encoding/binary"
	"encoding/hex"
	"errors"
	"fmt"
	"hash/crc32"
	"maps"
	"regexp"
	"slices"
	"strconv"
	"strings"
	"sync"

	"spoor/api"
	"spoor/batch"
	"spoor/disk"
	"spoor/engine"
	"spoor/lang"
	"spoor/sample"
	"spoor/span"
)

// A plain console: a line is held against the rows of the chapter's table by regular expressions, and done by the calls that the table names.

type plain struct {
	d        *disk.Disk
	e        *engine.Engine
	spans    map[string]api.Span
	batches  map[string][]byte
	policies []api.Policy
}

func newPlain() *plain {
	return &plain{d: disk.New(), spans: map[string]api.Span{}, batches: map[string][]byte{}}
}

// deed does a line of which all fields are of their forms, and all names there: m has the fields behind the command, a list as one.
type deed func(p *plain, m []string) (string, error)

type row struct {
	shape  string // S and B: names of spans and batches that must be there; PS and PB: those that are put; `..` behind it: a list
	engine bool
	do     deed
}

var expressions = sync.OnceValue(func() []*regexp.Regexp {
	name, number := `[a-z][a-z0-9-]{0,15}`, `0|[1-9][0-9]{0,18}`
	forms := map[string]string{
		"S": name, "B": name, "PS": name, "PB": name, "N": number, "F": `[^ ]+`, "REST": `.+`,
		"BYTE": `[0-9]|[1-9][0-9]|1[0-9][0-9]|2[0-4][0-9]|25[0-5]`, "BIT": `[01]`, "HOW": `stop|fail`, "HEX": `(?:[0-9a-f]{2})+`,
	}
	var l []*regexp.Regexp
	for _, r := range rows() {
		text := ""
		for _, f := range strings.Fields(r.shape) {
			one, list := strings.CutSuffix(f, "..")
			switch {
			case list:
				text += `((?: (?:` + forms[one] + `))*)`
			case forms[f] != "":
				text += ` (` + forms[f] + `)`
			default:
				text += ` ` + f
			}
		}
		l = append(l, regexp.MustCompile(`^`+text+`$`))
	}
	return l
})

var blanks = regexp.MustCompile(` +`)

func (p *plain) do(line string) (string, api.Errno) {
	if len(line) > 300 {
		return "", api.ErrConsoleLong
	}
	if strings.Contains(line, "\n") {
		return "", api.ErrConsoleLine
	}
	line = strings.TrimSuffix(blanks.ReplaceAllString(" "+line+" ", " "), " ")
	if line == "" || line[1] == '#' {
		return "", api.OK
	}
	for i, r := range rows() {
		if m := expressions()[i].FindStringSubmatch(line); m != nil {
			return p.doRow(r, m[1:])
		}
	}
	return "", api.ErrConsoleLine
}

func (p *plain) doRow(r row, m []string) (string, api.Errno) {
	var forms []string
	for _, f := range strings.Fields(r.shape) {
		if strings.Trim(f, "abcdefghijklmnopqrstuvwxyz") != "" {
			forms = append(forms, strings.TrimSuffix(f, ".."))
		}
	}
	for i, f := range forms {
		for _, x := range strings.Fields(m[i]) {
			if _, err := strconv.ParseInt(x, 10, 64); f == "N" && err != nil {
				return "", api.ErrConsoleLine
			}
		}
	}
	for i, f := range forms {
		for _, x := range strings.Fields(m[i]) {
			_, isSpan := p.spans[x]
			_, isBatch := p.batches[x]
			if f == "S" && !isSpan || f == "B" && !isBatch || f == "PS" && !isSpan && len(p.spans) == 16 || f == "PB" && !isBatch && len(p.batches) == 16 {
				return "", api.ErrConsoleName
			}
		}
	}
	if r.engine && p.e == nil {
		return "", api.ErrConsoleName
	}
	answer, err := r.do(p, m)
	if err != nil {
		var n api.Errno
		errors.As(err, &n)
		if n != api.OK {
			return "", n
		}
	}
	return answer, api.OK
}

func n(s string) int {
	v, err := strconv.Atoi(s)
	if err != nil {
		panic(err)
	}
	return v
}

// span changes the span of a name.
func (p *plain) span(name string, change func(s *api.Span)) (string, error) {
	s := p.spans[name]
	s.Links, s.Attrs, s.Events = slices.Clip(s.Links), slices.Clip(s.Attrs), slices.Clip(s.Events)
	change(&s)
	p.spans[name] = s
	return "ok", nil
}

func (p *plain) spansOf(names string) []api.Span {
	var l []api.Span
	for _, name := range strings.Fields(names) {
		l = append(l, p.spans[name])
	}
	return l
}

func unhex(s string) []byte {
	b, err := hex.DecodeString(s)
	if err != nil {
		panic(err)
	}
	return b
}

func place(err error) string {
	var f *api.Fault
	if errors.As(err, &f) {
		return fmt.Sprintf("%d at %d", int(f.Err), f.At)
	}
	var n api.Errno
	errors.As(err, &n)
	return fmt.Sprint(int(n))
}

// ask is of the commands that ask: the answer, part by part of its shape: u and i stand for numbers, t for a text, b for a span, `[` `]` for a list.
func ask(shape string, request func(m []string) []byte) deed {
	return func(p *plain, m []string) (string, error) {
		r := bytes.NewReader(p.e.Ask(request(m)))
		if why, _ := binary.ReadUvarint(r); why != 0 {
			if at, err := binary.ReadUvarint(r); err == nil {
				return fmt.Sprintf("fault %d at %d", why, at), nil
			}
			return "", api.Errno(why)
		}
		words := tell(shape, r)
		if r.Len() > 0 {
			panic("something is left of an answer")
		}
		return strings.Join(words, " "), nil
	}
}

func tell(shape string, r *bytes.Reader) []string {
	var words []string
	for i := 0; i < len(shape); i++ {
		if shape[i] == 'i' {
			v, _ := binary.ReadVarint(r)
			words = append(words, fmt.Sprint(v))
			continue
		}
		v, _ := binary.ReadUvarint(r)
		if shape[i] != 't' {
			words = append(words, fmt.Sprint(v))
		}
		switch shape[i] {
		case 't', 'b':
			b := make([]byte, v)
			r.Read(b)
			text := string(b)
			if shape[i] == 'b' {
				text = fmt.Sprintf("%08x", crc32.Checksum(b, crc32.MakeTable(crc32.Castagnoli)))
			}
			words = append(words, text)
		case '[':
			end, deep := i, 0
			for deep += 1; deep > 0; {
				end++
				deep += map[byte]int{'[': 1, ']': -1}[shape[end]]
			}
			for range v {
				words = append(words, tell(shape[i+1:end], r)...)
			}
			i = end
		}
	}
	return words
}

// asks lays numbers and texts down: u, i and t, as they stand in the line, from the field that stands there; 0 is a nought.
func asks(kind byte, shape string, from ...int) func(m []string) []byte {
	return func(m []string) []byte {
		b, next := []byte{kind}, 0
		for _, c := range shape {
			if c == '0' {
				b = append(b, 0)
				continue
			}
			x := m[from[next]]
			next++
			switch c {
			case 'u':
				b = binary.AppendUvarint(b, uint64(n(x)))
			case 'i':
				b = binary.AppendVarint(b, int64(n(x)))
			case 't':
				b = append(binary.AppendUvarint(b, uint64(len(x))), x...)
			}
		}
		return b
	}
}

func rows() []row {
	edges := "[ttuuuuuuuuu]"
	legs := "[uii]"
	return slices.Concat(spanRows(), batchRows(), diskRows(), engineRows(), []row{
		{"trace N", true, ask("[b]", asks(1, "0u", 0))},
		{"forest N", true, ask("[uuuuuii]", asks(2, "0u", 0))},
		{"own N", true, ask("[uuuu]", asks(3, "0u", 0))},
		{"path N N", true, ask(legs, asks(4, "0uu", 0, 1))},
		{"chain N", true, ask("[uui"+legs+"]", asks(5, "0u", 0))},
		{"services N N", true, ask("[tu][tu]", asks(6, "0uu", 0, 1))},
		{"deps N N", true, ask(edges, asks(7, "ii", 0, 1))},
		{"top N N N N", true, ask(edges, asks(8, "iiuu", 0, 1, 2, 3))},
		{"windows N N", true, ask("[ii"+edges+"]", asks(9, "ii", 0, 1))},
		{"traces N N", true, ask("[uuu]", asks(10, "0uu", 0, 1))},
		{"stats", true, ask("uuii", asks(11, ""))},
		{"find N REST", true, ask("[uuu]", asks(12, "tu", 1, 0))},
		{"plan REST", true, ask("[tt]u", asks(13, "t", 0))},
		{"names", false, func(p *plain, m []string) (string, error) {
			all := append([]string{"spans"}, slices.Sorted(maps.Keys(p.spans))...)
			all[len(all)-1] += ";"
			return strings.Join(append(append(all, "batches"), slices.Sorted(maps.Keys(p.batches))...), " "), nil
		}},
	})
}

func spanRows() []row {
	return []row{
		{"span PS N N N F F N N", false, func(p *plain, m []string) (string, error) {
			p.spans[m[0]] = api.Span{Trace: api.TraceID{Lo: uint64(n(m[1]))}, ID: api.SpanID(n(m[2])), Parent: api.SpanID(n(m[3])), Service: m[4], Op: m[5], Start: int64(n(m[6])), End: int64(n(m[7]))}
			return "ok", nil
		}},
		{"kind S BYTE", false, func(p *plain, m []string) (string, error) {
			return p.span(m[0], func(s *api.Span) { s.Kind = api.Kind(n(m[1])) })
		}},
		{"status S BYTE", false, func(p *plain, m []string) (string, error) {
			return p.span(m[0], func(s *api.Span) { s.Status = api.Status(n(m[1])) })
		}},
		{"link S N", false, func(p *plain, m []string) (string, error) {
			return p.span(m[0], func(s *api.Span) { s.Links = append(s.Links, api.SpanID(n(m[1]))) })
		}},
		{"attr S F text REST", false, func(p *plain, m []string) (string, error) {
			return p.span(m[0], func(s *api.Span) { s.Attrs = append(s.Attrs, api.Attr{Key: m[1], Value: api.Value{Text: m[2]}}) })
		}},
		{"attr S F int N", false, func(p *plain, m []string) (string, error) {
			return p.span(m[0], func(s *api.Span) {
				s.Attrs = append(s.Attrs, api.Attr{Key: m[1], Value: api.Value{Kind: api.Int, Int: int64(n(m[2]))}})
			})
		}},
		{"attr S F bool BIT", false, func(p *plain, m []string) (string, error) {
			return p.span(m[0], func(s *api.Span) {
				s.Attrs = append(s.Attrs, api.Attr{Key: m[1], Value: api.Value{Kind: api.Bool, Int: int64(n(m[2]))}})
			})
		}},
		{"event S N REST", false, func(p *plain, m []string) (string, error) {
			return p.span(m[0], func(s *api.Span) { s.Events = append(s.Events, api.Event{At: int64(n(m[1])), Name: m[2]}) })
		}},
		{"check S", false, func(p *plain, m []string) (string, error) { return "ok", span.Check(p.spans[m[0]]) }},
		{"policy BYTE N F N", false, func(p *plain, m []string) (string, error) {
			one := api.Policy{Kind: api.PolicyKind(n(m[0])), Nanos: uint64(n(m[1])), Name: m[2], Part: n(m[3])}
			if m[2] == "-" {
				one.Name = ""
			}
			l := append(slices.Clip(p.policies), one)
			if why := sample.Check(l); why != api.OK {
				return "", why
			}
			p.policies = l
			return "ok", nil
		}},
		{"verdict S S..", false, func(p *plain, m []string) (string, error) {
			v, why := sample.Decide(p.policies, p.spansOf(m[0]+m[1]))
			return fmt.Sprintf("%s policy %d weight %d.%d", map[bool]string{true: "1", false: "0"}[v.Keep], v.Policy, v.Weight.Hi, v.Weight.Lo), why
		}},
	}
}

func batchRows() []row {
	return []row{
		{"batch PB S..", false, func(p *plain, m []string) (string, error) {
			b, err := batch.Encode(p.spansOf(m[1]))
			if err != nil {
				return "fault " + place(err), nil
			}
			p.batches[m[0]] = b
			return fmt.Sprintf("%d bytes %08x", len(b), crc32.Checksum(b, crc32.MakeTable(crc32.Castagnoli))), nil
		}},
		{"spoil B N HEX", false, func(p *plain, m []string) (string, error) {
			b, at, by := p.batches[m[0]], n(m[1]), unhex(m[2])
			if at > 1<<20 || at+len(by) > len(b) {
				return "", api.ErrDiskRange
			}
			p.batches[m[0]] = slices.Concat(b[:at], by, b[at+len(by):])
			return "ok", nil
		}},
		{"read B", false, func(p *plain, m []string) (string, error) {
			l, err := batch.Decode(p.batches[m[0]])
			if err != nil {
				return "fault " + place(err), nil
			}
			return fmt.Sprint(len(l), " spans"), nil
		}},
		{"ingest B", true, func(p *plain, m []string) (string, error) {
			a, err := p.e.Ingest(p.batches[m[0]])
			if err != nil {
				return "refused " + place(err), nil
			}
			return fmt.Sprintf("record %d fresh %d better %d kept %d", a.Record, a.Fresh, a.Better, a.Kept), nil
		}},
	}
}

func diskRows() []row {
	return []row{
		{"arm N HOW N", false, func(p *plain, m []string) (string, error) {
			return "ok", p.d.Arm(n(m[0]), map[string]api.How{"stop": api.Stop, "fail": api.Fail}[m[1]], n(m[2]))
		}},
		{"power N N..", false, func(p *plain, m []string) (string, error) {
			k := api.Keep{Names: n(m[0])}
			for _, units := range strings.Fields(m[1]) {
				k.Data = append(k.Data, n(units))
			}
			p.d.Restart(k)
			p.e = nil
			return "ok", nil
		}},
		{"pending", false, func(p *plain, m []string) (string, error) {
			k := p.d.Pending()
			return strings.Trim(fmt.Sprint(append([]int{k.Names}, k.Data...)), "[]"), nil
		}},
		{"files", false, func(p *plain, m []string) (string, error) {
			l, why := p.d.Names()
			for i := range l {
				size, _ := p.d.Size(l[i])
				l[i] = fmt.Sprint(l[i], ":", size)
			}
			return strings.Join(l, " "), why
		}},
		{"bytes F N N", false, func(p *plain, m []string) (string, error) {
			b, why := p.d.Read(m[0], n(m[1]), n(m[2]))
			return hex.EncodeToString(b), why
		}},
		{"flip F N BYTE", false, func(p *plain, m []string) (string, error) {
			why := p.d.Flip(m[0], n(m[1]), byte(n(m[2])))
			if why == api.OK {
				p.e = nil
			}
			return "ok", why
		}},
	}
}

func engineRows() []row {
	return []row{
		{"open N N N", false, func(p *plain, m []string) (string, error) {
			e, r, err := engine.Open(p.d, api.Config{Segment: n(m[0]), Fan: n(m[1]), Workers: n(m[2])})
			p.e = nil
			var f *api.FileFault
			switch {
			case errors.As(err, &f):
				return fmt.Sprintf("file %s error %d at %d", f.Name, int(f.Err), f.At), nil
			case err != nil:
				return "fault " + place(err), nil
			}
			p.e = e
			return fmt.Sprintf("segments %d first %d next %d torn %d", r.Segments, r.First, r.Next, r.Torn), nil
		}},
		{"flush", true, func(p *plain, m []string) (string, error) { return "ok", p.e.Flush() }},
		{"checkpoint", true, func(p *plain, m []string) (string, error) { return "ok", p.e.Checkpoint() }},
		{"sick", true, func(p *plain, m []string) (string, error) {
			return map[bool]string{true: "1", false: "0"}[p.e.Sick()], nil
		}},
		{"ask HEX", true, func(p *plain, m []string) (string, error) { return hex.EncodeToString(p.e.Ask(unhex(m[0]))), nil }},
		{"print REST", false, func(p *plain, m []string) (string, error) {
			q, err := lang.Parse(m[0])
			if err != nil {
				return "fault " + place(err), nil
			}
			form, why := lang.Print(q)
			return form, why
		}},
		{"watch N REST", true, func(p *plain, m []string) (string, error) {
			q, err := lang.Parse(m[1])
			if err != nil {
				return "fault " + place(err), nil
			}
			w, why := p.e.Watch(q, n(m[0]))
			return fmt.Sprint(w), why
		}},
		{"take N N", true, func(p *plain, m []string) (string, error) {
			hits, lost, why := p.e.Take(n(m[0]), n(m[1]))
			text := fmt.Sprintf("lost %d:", lost)
			for _, h := range hits {
				text += fmt.Sprintf(" %d.%d.%d", h.Trace.Hi, h.Trace.Lo, h.ID)
			}
			return text, why
		}},
		{"unwatch N", true, func(p *plain, m []string) (string, error) { return "ok", p.e.Unwatch(n(m[0])) }},
	}
}
