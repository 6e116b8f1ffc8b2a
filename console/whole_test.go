package console_test

import (
	"cmp"
	"fmt"
	"math/rand/v2"
	"slices"
	"strconv"
	"strings"
	"testing"

	"spoor/api"
	"spoor/calls"
	"spoor/console"
	"spoor/forest"
	"spoor/lang"
	"spoor/match"
	"spoor/own"
	"spoor/span"
	"spoor/sweep"
)

// The promises of the whole, T1 to T12, by lines.

// linesOf are the lines that make a span.
func linesOf(name string, s api.Span) []string {
	l := []string{
		fmt.Sprintf("span %s %d %d %d %s %s %d %d", name, s.Trace.Lo, s.ID, s.Parent, s.Service, s.Op, s.Start, s.End),
		fmt.Sprintf("kind %s %d", name, s.Kind), fmt.Sprintf("status %s %d", name, s.Status),
	}
	for _, id := range s.Links {
		l = append(l, fmt.Sprintf("link %s %d", name, id))
	}
	return l
}

// someSpans are of the traces 1 to 4, with IDs up to 6, some of one name, over three hours.
func someSpans(w writer, n int) []api.Span {
	var l []api.Span
	for range n {
		s := api.Span{
			Trace: api.TraceID{Lo: 1 + w.Uint64N(4)}, ID: api.SpanID(1 + w.IntN(6)), Parent: api.SpanID(w.IntN(7)),
			Service: w.of("web", "db", "log"), Op: w.of("get", "put"), Kind: api.Kind(w.IntN(5)), Status: api.Status(w.IntN(3)),
		}
		s.Start = hour(w.Int64N(3), w.Int64N(50))
		s.End = s.Start + w.Int64N(60)
		if id := api.SpanID(1 + w.IntN(6)); id != s.ID && w.IntN(3) == 0 {
			s.Links = []api.SpanID{id}
		}
		l = append(l, s)
	}
	return l
}

// laid makes a batch of up to 16 spans.
func laid(t testing.TB, c *console.Console, name string, l []api.Span) {
	t.Helper()
	line := "batch " + name
	for i, s := range l {
		oks(t, c, linesOf(fmt.Sprint("s", i), s)...)
		line += fmt.Sprint(" s", i)
	}
	does(t, c, line)
}

// takes has the engine take spans, by batches of up to so many.
func takes(t testing.TB, c *console.Console, most int, l []api.Span) {
	t.Helper()
	for b := range slices.Chunk(l, most) {
		laid(t, c, "b", b)
		begins(t, c, "record ", "ingest b")
	}
}

func queries() []string {
	return []string{`{}`, `{service = "db"}`, `{service="web"} > {dur > 5ns} || {leaf = true}`, `{status = failed} ~ {} | top 2 by self`, `{kind = client or root = true} && {links > 0}`, `{} >> {op = "get"} | count > 1`}
}

// asked is what a console answers to questions of all kinds.
func asked(t testing.TB, c *console.Console) string {
	t.Helper()
	lines := []string{"stats", "traces 0 1000", "traces 2 1", "ask 0b"}
	for trace := range 6 {
		for _, command := range []string{"trace", "forest", "own", "chain"} {
			lines = append(lines, fmt.Sprint(command, " ", trace))
		}
		for root := range 7 {
			lines = append(lines, fmt.Sprint("path ", trace, " ", root), fmt.Sprint("services ", trace, " ", root))
		}
	}
	for from := range 4 {
		for to := range 6 {
			lines = append(lines, fmt.Sprint("deps ", from, " ", to), fmt.Sprint("windows ", from, " ", to), fmt.Sprintf("top %d %d %d 2", from, to, from%3))
		}
	}
	for i, q := range queries() {
		lines = append(lines, "find 0 "+q, "plan "+q, fmt.Sprint("find ", 3*i+1, " ", q))
	}
	var all strings.Builder
	for _, line := range lines {
		fmt.Fprintf(&all, "%s: %s\n", line, said(t, c, line))
	}
	return all.String()
}

// isAsked holds what a console answers against what it must.
func isAsked(t testing.TB, what string, c *console.Console, want string) {
	t.Helper()
	if got := asked(t, c); got != want {
		g, w := strings.Split(got, "\n"), strings.Split(want, "\n")
		for i := range min(len(g), len(w)) {
			if g[i] != w[i] {
				t.Fatalf("%s: %s; not %s", what, g[i], w[i])
			}
		}
		t.Fatal(what)
	}
}

// setOf are the spans that count, by traces and IDs.
func setOf(l []api.Span) []api.Span {
	var set []api.Span
	for _, s := range slices.SortedFunc(slices.Values(l), func(a, b api.Span) int { return -span.Compare(a, b) }) { // the greatest of each name first
		if n := len(set); n == 0 || set[n-1].Trace != s.Trace || set[n-1].ID != s.ID {
			set = append(set, s)
		}
	}
	slices.Reverse(set)
	return set
}

func forestsOf(set []api.Span) map[uint64]*forest.Forest {
	forests := map[uint64]*forest.Forest{}
	for _, s := range set {
		f, _ := forest.Build(slices.DeleteFunc(slices.Clone(set), func(o api.Span) bool { return o.Trace != s.Trace }))
		forests[s.Trace.Lo] = f
	}
	return forests
}

// words is a list as an answer tells it: how many, then each of them.
func words[T any](l []T, each func(T) string) string {
	text := fmt.Sprint(len(l))
	for _, x := range l {
		text += " " + each(x)
	}
	return text
}

func leg(l api.Leg) string { return fmt.Sprint(l.Owner, " ", l.From, " ", l.To) }

func share(s api.ServiceShare) string { return fmt.Sprint(s.Service, " ", s.Nanos) }

// T1: answers are what the layers say of the set.
func TestAnswers(t *testing.T) {
	for seed := range uint64(60) {
		w := writer{rand.New(rand.NewPCG(1, seed))}
		l := someSpans(w, 10+w.IntN(30))
		c := opened(t)
		takes(t, c, 9, l)
		set := setOf(l)
		is := func(want, line string, of ...any) {
			t.Helper()
			if got := said(t, c, fmt.Sprintf(line, of...)); got != want {
				t.Fatalf("seed %d: %s: %s, not %s", seed, fmt.Sprintf(line, of...), got, want)
			}
		}
		var all []api.Call
		for trace, f := range forestsOf(set) {
			all = append(all, calls.Of(f)...)
			is(words(slices.Collect(f.Down()), func(n api.Node) string {
				return fmt.Sprint(n.ID, " ", n.Parent, " ", int(n.Origin), " ", n.Tree, " ", n.Depth, " ", n.Clip.From, " ", n.Clip.To)
			}), "forest %d", trace)
			is(words(own.Times(f), func(o api.Own) string { return fmt.Sprint(o.ID, " ", o.Total, " ", o.Exclusive, " ", o.Self) }), "own %d", trace)
			is(words(sweep.Chain(f), func(h api.Hop) string {
				return fmt.Sprint(h.Root, " ", h.From, " ", h.Gap, " ", words(h.Legs, leg))
			}), "chain %d", trace)
			for _, root := range f.Roots() {
				legs, _ := sweep.Path(f, root)
				is(words(legs, leg), "path %d %d", trace, root)
				hung, _ := sweep.Services(f, root)
				owned, _ := own.Services(f, root)
				is(words(hung, share)+" "+words(owned, share), "services %d %d", trace, root)
			}
		}
		counts := strings.Fields(said(t, c, "stats"))
		if counts[0] != fmt.Sprint(len(set)) {
			t.Errorf("seed %d: %s spans, not %d", seed, counts[0], len(set))
		}
		edges := said(t, c, "deps 0 9")
		for _, x := range all {
			if !strings.Contains(" "+edges, " "+x.Edge.From+" "+x.Edge.To+" ") {
				t.Errorf("seed %d: no %v in %s", seed, x.Edge, edges)
			}
		}
	}
}

// T2: a batch that is refused leaves no trace.
func TestWholeOrNone(t *testing.T) {
	w := writer{rand.New(rand.NewPCG(2, 2))}
	c := opened(t)
	takes(t, c, 16, someSpans(w, 40))
	goes(t, c, "> watch 1000 {}\n0")
	want := asked(t, c)
	laid(t, c, "x", []api.Span{{Trace: api.TraceID{Lo: 4}, ID: 77, Service: "new", Op: "new", Start: 1, End: 2}})
	size, _ := strconv.Atoi(strings.Fields(said(t, c, "batch x s0"))[0])
	for at := range size {
		does(t, c, "batch x s0", fmt.Sprintf("spoil x %d ff", at))
		read := said(t, c, "read x")
		if !refused(read) {
			continue // it is another batch
		}
		if got := said(t, c, "ingest x"); got != "refused"+strings.TrimPrefix(read, "fault") {
			t.Errorf("at %d: %s, but %s", at, got, read)
		}
	}
	goes(t, c, "> take 0 1000\nlost 0:\n> sick\n0")
	isAsked(t, "behind refused batches", c, want)
}

// T3: neither the order of spans, nor how they are cut into batches, nor what is done between is seen.
func TestOrder(t *testing.T) {
	for seed := range uint64(30) {
		w := writer{rand.New(rand.NewPCG(3, seed))}
		l := someSpans(w, 40)
		c := opened(t)
		takes(t, c, 16, l)
		want := asked(t, c)
		o := opened(t)
		begins(t, o, "segments", w.of("open 64 2 1", "open 4096 2 16"))
		for {
			w.Shuffle(len(l), func(i, j int) { l[i], l[j] = l[j], l[i] })
			n := w.IntN(len(l))
			takes(t, o, 1+w.IntN(16), l[:n])
			does(t, o, w.of("flush", "checkpoint", "stats", "forest 1", "find 0 {}", "watch 1 {}", "names"))
			if n > 30 {
				break
			}
		}
		takes(t, o, 1+w.IntN(16), l)
		isAsked(t, fmt.Sprint("seed ", seed), o, want)
		does(t, o, "open 64 2 3")
		isAsked(t, fmt.Sprint("opened anew, seed ", seed), o, want)
	}
}

// node is a node as `forest` tells it.
type node struct{ id, parent, origin, tree, depth, from, to int64 }

// numbers are those of an answer.
func numbers(t *testing.T, answer string) []int64 {
	t.Helper()
	var l []int64
	for _, word := range strings.Fields(answer) {
		n, err := strconv.ParseInt(word, 10, 64)
		if err != nil {
			t.Fatal(answer)
		}
		l = append(l, n)
	}
	return l
}

func nodesOf(t *testing.T, c *console.Console, trace int) []node {
	t.Helper()
	answer := said(t, c, fmt.Sprint("forest ", trace))
	if refused(answer) {
		return nil
	}
	var l []node
	for x := range slices.Chunk(numbers(t, answer)[1:], 7) {
		l = append(l, node{x[0], x[1], x[2], x[3], x[4], x[5], x[6]})
	}
	return l
}

// T4, T5: the legs of a path fill the root's interval, each within its owner's, while none of its children runs; the times of the innermost make up the root's length.
func TestPathsAndOwners(t *testing.T) {
	trees := 0
	for seed := range uint64(60) {
		w := writer{rand.New(rand.NewPCG(4, seed))}
		c := opened(t)
		takes(t, c, 16, someSpans(w, 40))
		for trace := 1; trace <= 4; trace++ {
			nodes := nodesOf(t, c, trace)
			exclusive, self, hung := map[int64]int64{}, map[int64]int64{}, map[int64]int64{}
			for x := range slices.Chunk(numbers(t, said(t, c, fmt.Sprint("own ", trace)))[1:], 4) {
				if exclusive[x[0]], self[x[0]] = x[2], x[3]; x[3] > x[2] || x[2] > x[1] {
					t.Errorf("seed %d: %d", seed, x)
				}
			}
			for _, root := range nodes {
				if root.parent != 0 {
					continue
				}
				trees++
				at := root.from
				for l := range slices.Chunk(numbers(t, said(t, c, fmt.Sprint("path ", trace, " ", root.id)))[1:], 3) {
					if l[1] != at || l[2] <= l[1] {
						t.Errorf("seed %d: a leg %d at %d", seed, l, at)
					}
					at = l[2]
					hung[l[0]] += l[2] - l[1]
					for _, n := range nodes {
						if n.id == l[0] && (l[1] < n.from || l[2] > n.to || n.tree != root.id) || n.parent == l[0] && max(n.from, l[1]) < min(n.to, l[2]) {
							t.Errorf("seed %d: a leg %d, and %v", seed, l, n)
						}
					}
				}
				if root.from < root.to && at != root.to || root.from >= root.to && at != root.from {
					t.Errorf("seed %d: legs up to %d of %v", seed, at, root)
				}
				sum := int64(0)
				for _, n := range nodes {
					if n.tree == root.id {
						sum += self[n.id]
					}
				}
				if sum != max(0, root.to-root.from) {
					t.Errorf("seed %d: %d, not the length of %v", seed, sum, root)
				}
			}
			for id, n := range hung {
				if n > exclusive[id] {
					t.Errorf("seed %d: %d hung on %d, which did %d alone", seed, n, id, exclusive[id])
				}
			}
		}
	}
	if trees < 300 {
		t.Error("only", trees, "trees")
	}
}

// T6: whenever the power goes, whatever outlasts it, a beginning of the batches is there, not shorter than what was flushed.
func TestPowerGoes(t *testing.T) {
	ends := map[string]int{}
	for seed := range uint64(150) {
		w := writer{rand.New(rand.NewPCG(6, seed))}
		c, o := opened(t), opened(t)
		begins(t, c, "segments", w.of("open 64 2 2", "open 300 2 2", "open 4096 2 2"))
		states := []string{asked(t, o)} // behind each batch
		least, off := 0, false
		oks(t, c, fmt.Sprintf("arm %d %s %s", 1+w.IntN(25), w.of("stop", "stop", "fail"), w.of("0", "1", "30", "100", "1000")))
		for !off && len(states) < 9 {
			l := someSpans(w, 1+w.IntN(4))
			laid(t, c, "x", l)
			got := said(t, c, "ingest x")
			takes(t, o, 16, l)
			states = append(states, asked(t, o))
			if off = refused(got); !off && w.IntN(2) == 0 {
				line := w.of("flush", "flush", "checkpoint")
				if off = said(t, c, line) != "ok"; !off {
					least = len(states) - 1
				}
			}
		}
		pending := numbers(t, said(t, c, "pending"))
		line := "power"
		for _, n := range pending {
			line += fmt.Sprint(" ", w.Int64N(n+2))
		}
		oks(t, c, line)
		begins(t, c, "segments", "open 64 2 2")
		now := asked(t, c)
		n := slices.IndexFunc(states[least:], func(s string) bool { return s == now })
		if n < 0 {
			t.Fatalf("seed %d: no beginning of %d batches, of which %d last", seed, len(states)-1, least)
		}
		ends[fmt.Sprint(off, cmp.Compare(least+n, len(states)-1))]++
		oks(t, c, "power 0")
		if got := said(t, c, "open 64 2 2"); !strings.HasSuffix(got, " torn 0") {
			t.Fatalf("seed %d: %s", seed, got)
		}
		isAsked(t, "opened twice", c, now)
		takes(t, c, 16, someSpans(w, 5)) // from there on all is as ever
		oks(t, c, "checkpoint")
	}
	for _, end := range []string{"true 0", "true -1", "false 0", "false -1"} {
		if ends[end] == 0 {
			t.Error("never met:", end, ends)
		}
	}
}

// calledOf are the calls of each edge, of an answer's row.
func calledOf(t *testing.T, sums map[string]int64, fields []string) {
	t.Helper()
	for row := range slices.Chunk(fields, 11) {
		for i, n := range numbers(t, strings.Join(row[2:5], " ")) {
			sums[fmt.Sprint(row[0], " ", row[1], " ", i)] += n
		}
	}
}

// T7: the tallies of wide windows are the sums of their hours.
func TestWindows(t *testing.T) {
	for seed := range uint64(20) {
		w := writer{rand.New(rand.NewPCG(7, seed))}
		c := console.New()
		begins(t, c, "segments", w.of("open 64 2 2", "open 64 3 2", "open 64 16 2"))
		takes(t, c, 16, someSpans(w, 40))
		for from := range 4 {
			for to := from; to < 20; to++ {
				whole, hours, windows := map[string]int64{}, map[string]int64{}, map[string]int64{}
				calledOf(t, whole, strings.Fields(said(t, c, fmt.Sprint("deps ", from, " ", to)))[1:])
				for h := from; h < to; h++ {
					calledOf(t, hours, strings.Fields(said(t, c, fmt.Sprint("deps ", h, " ", h+1)))[1:])
				}
				at := from
				for f := strings.Fields(said(t, c, fmt.Sprint("windows ", from, " ", to)))[1:]; len(f) > 0; {
					n := numbers(t, strings.Join(f[:3], " "))
					if int(n[0]) != at {
						t.Errorf("a window at %d, not %d", n[0], at)
					}
					at += int(n[1])
					calledOf(t, windows, f[3:3+11*n[2]])
					f = f[3+11*n[2]:]
				}
				if fmt.Sprint(whole) != fmt.Sprint(hours) || fmt.Sprint(whole) != fmt.Sprint(windows) || at != to {
					t.Errorf("%d to %d: %v, %v, %v", from, to, whole, hours, windows)
				}
			}
		}
	}
}

// T8: what is found is what match finds in each trace, by any number of workers.
func TestQueries(t *testing.T) {
	for seed := range uint64(30) {
		w := writer{rand.New(rand.NewPCG(8, seed))}
		l := someSpans(w, 40)
		c := opened(t)
		takes(t, c, 16, l)
		forests := forestsOf(setOf(l))
		for _, text := range queries() {
			q, _ := lang.Parse(text)
			var hits []string
			for trace := range uint64(5) {
				if forests[trace] == nil {
					continue
				}
				ids, _ := match.Find(q, forests[trace])
				for _, id := range ids {
					hits = append(hits, fmt.Sprintf("0 %d %d", trace, id))
				}
			}
			want := words(hits, func(s string) string { return s })
			for _, workers := range []string{"1", "3", "16"} {
				does(t, c, "open 64 2 "+workers)
				if got := said(t, c, "find 0 "+text); got != want {
					t.Fatalf("seed %d, %s workers: %s: %s, not %s", seed, workers, text, got, want)
				}
			}
		}
	}
}

// T9: what print writes is read as that query: it is written so again, and finds the same.
func TestWrittenAndRead(t *testing.T) {
	c := opened(t)
	takes(t, c, 16, someSpans(writer{rand.New(rand.NewPCG(9, 9))}, 40))
	for _, text := range append(queries(), `({service="web"}   ~ ({} || {}))`, `{not (.a = 5m and not .b =~ "x\"\\y")}`, `{dur>1500000ns}|max total>=60s|min self<0`) {
		form := said(t, c, "print "+text)
		if refused(form) || said(t, c, "print "+form) != form || said(t, c, "find 0 "+form) != said(t, c, "find 0 "+text) || said(t, c, "plan "+form) != said(t, c, "plan "+text) {
			t.Errorf("%s, %s: %s", text, form, said(t, c, "print "+form))
		}
	}
}

// T10: each span that is found is told once, in the order in which it was found, but for those that had no room.
func TestWatches(t *testing.T) {
	for seed := range uint64(30) {
		w := writer{rand.New(rand.NewPCG(10, seed))}
		text := queries()[w.IntN(len(queries()))]
		q, _ := lang.Parse(text)
		room := 1 + w.IntN(4)
		c := opened(t)
		goes(t, c, fmt.Sprintf("> watch 1000 %s\n0\n> watch %d %s\n1", text, room, text))
		var all, ingested []string
		found := map[string]int{}
		var l []api.Span
		told, waiting, lost := "", 0, 0
		for range 12 {
			b := someSpans(w, 1+w.IntN(5))
			l = append(l, b...)
			takes(t, c, 16, b)
			forests := forestsOf(setOf(l))
			for trace := range uint64(5) {
				if !slices.ContainsFunc(b, func(s api.Span) bool { return s.Trace.Lo == trace }) {
					continue
				}
				ids, _ := match.Find(q, forests[trace])
				for _, id := range ids {
					hit := fmt.Sprintf(" 0.%d.%d", trace, id)
					if found[hit]++; found[hit] > 1 {
						continue
					}
					all = append(all, hit)
					if waiting < room {
						waiting++
						ingested = append(ingested, hit)
					} else {
						lost++
					}
				}
			}
			if w.IntN(3) == 0 {
				most := min(w.IntN(3), waiting)
				want := fmt.Sprintf("lost %d:%s", lost, strings.Join(ingested[:most], ""))
				goes(t, c, fmt.Sprintf("> take 1 %d\n%s", most, want))
				ingested, waiting, lost = ingested[most:], waiting-most, 0
				n := w.IntN(4)
				told += strings.TrimPrefix(said(t, c, fmt.Sprint("take 0 ", n)), "lost 0:")
			}
		}
		told += strings.TrimPrefix(said(t, c, "take 0 1000"), "lost 0:")
		if told != strings.Join(all, "") {
			t.Fatalf("seed %d: %s: %s, not %s", seed, text, told, all)
		}
	}
}

// T11: a Checkpoint changes no answer, and wherever the power goes in it, or a change fails, nothing is lost that lasted.
func TestCheckpoints(t *testing.T) {
	w := writer{rand.New(rand.NewPCG(11, 11))}
	l := someSpans(w, 60)
	for change := 1; ; change++ {
		ended := false
		for _, how := range []string{"stop 0", "stop 1", "stop 100", "stop 9999999", "fail 0", "fail 50", "fail 9999999"} {
			for _, keep := range []string{"0", "1", "2", "3 9 99 999 9999", "99 9999 9999 9999 9999 9999 9999 9999 9999 9999 9999 9999 9999"} {
				c := opened(t)
				takes(t, c, 16, l[:20])
				oks(t, c, "checkpoint")
				takes(t, c, 16, l[20:])
				want := asked(t, c)
				oks(t, c, "flush", fmt.Sprintf("arm %d %s", change, how))
				got := said(t, c, "checkpoint")
				if ended = got == "ok"; ended {
					oks(t, c, "arm 0 stop 0")
				} else if got != map[bool]string{true: "error 75", false: "error 76"}[how[0] == 's'] {
					t.Fatal(got)
				}
				isAsked(t, "behind it", c, want)
				oks(t, c, "power "+keep)
				begins(t, c, "segments", "open 64 2 2")
				isAsked(t, fmt.Sprint("change ", change, ", ", how, ", ", keep), c, want)
			}
		}
		if ended {
			if change < 8 {
				t.Error("only", change, "changes")
			}
			return
		}
	}
}

// T12, as far as a line can ask: a verdict hangs on which spans a trace has, not on how they are put together.
func TestVerdictsOfOneTrace(t *testing.T) {
	c := console.New()
	oks(t, c, "policy 2 90 - 0", "policy 4 0 - 40000", "policy 3 0 db 0")
	for trace := 1; trace < 30; trace++ {
		oks(t, c, fmt.Sprintf("span a %d 1 0 web get 10 50", trace), fmt.Sprintf("span b %d 2 1 log get %d 99", trace, 9+trace%5), fmt.Sprintf("span c %d 3 1 %s get 20 60", trace, []string{"db", "web"}[trace%2]))
		want := said(t, c, "verdict a b c")
		for _, order := range []string{"a c b", "b a c", "b c a", "c a b", "c b a"} {
			goes(t, c, "> verdict "+order+"\n"+want)
		}
	}
}
