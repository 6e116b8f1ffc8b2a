package console_test

import (
	"fmt"
	"strings"
	"testing"

	"spoor/console"
)

func TestOpen(t *testing.T) {
	goes(t, console.New(), `
> open 63 2 2
fault 231 at 0
> open 64 1 2
fault 231 at 0
> open 64 17 2
fault 231 at 0
> open 64 2 0
fault 231 at 0
> open 64 2 17
fault 231 at 0
> open 16777217 2 2
fault 231 at 0
> open 9223372036854775807 9223372036854775807 9223372036854775807
fault 231 at 0
> files

> stats
error 242
> open 16777216 16 16
segments 1 first 0 next 0 torn 0
> stats
0 0 0 0
> open 64 2 1
segments 1 first 0 next 0 torn 0
> stats
0 0 0 0
> open 0 0 0
fault 231 at 0
> stats
error 242
`)
}

// An engine that is opened anew has the same spans, and no watches; one that cannot be opened leaves none.
func TestOpenAnew(t *testing.T) {
	goes(t, stocked(t), `
> watch 5 {}
0
> open 64 2 2
segments 1 first 0 next 1 torn 0
> take 0 9
error 221
> watch 5 {}
0
> checkpoint
ok
> ingest x
record 1 fresh 0 better 0 kept 3
> checkpoint
ok
> take 0 9
lost 0: 0.7.1 0.7.2 0.7.3
> open 64 2 2
segments 1 first 1 next 2 torn 0
> flip seg-0000000001 12 1
ok
> open 64 2 2
file seg-0000000001 error 81 at 0
> stats
error 242
> flip seg-0000000001 12 1
ok
> arm 2 fail 0
ok
> open 64 2 2
file  error 76 at 0
> stats
error 242
> arm 1 fail 0
ok
> open 64 2 2
file seg-0000000001 error 76 at 0
> open 64 2 2
segments 1 first 1 next 2 torn 0
`)
}

func TestIngest(t *testing.T) {
	c := opened(t)
	goes(t, c, "> batch none\n6 bytes 37a8c3cb\n> ingest none\nrecord 0 fresh 0 better 0 kept 0")
	oks(t, c, "span a 7 1 0 web get 10 30", "span b 7 1 0 web get 10 31", "span c 8 1 0 web get 10 29")
	does(t, c, "batch x a a", "batch y a b c b")
	goes(t, c, `
> ingest x
record 1 fresh 1 better 0 kept 1
> ingest y
record 2 fresh 1 better 1 kept 2
> ingest z
error 242
> ingest a
error 242
> spoil y 0 00
ok
> ingest y
refused 52 at 0
> spoil y 0 53
ok
> spoil y 2 02
ok
> ingest y
refused 52 at 0
> spoil y 2 01
ok
> ingest y
record 3 fresh 0 better 0 kept 4
`)
	// A trace has at most 1000 spans: an error without a place.
	for n := 1; n <= 1000; n += 8 {
		names := ""
		for i := range 8 {
			oks(t, c, fmt.Sprintf("span %c 9 %d 0 a b 1 2", 'a'+i, n+i))
			names += fmt.Sprintf(" %c", 'a'+i)
		}
		does(t, c, "batch x"+names)
		begins(t, c, "record", "ingest x")
	}
	oks(t, c, "span a 9 1001 0 a b 1 2", "span b 9 1 0 a b 1 3")
	does(t, c, "batch x a", "batch y b")
	goes(t, c, "> ingest x\nrefused 91\n> sick\n0")
	begins(t, c, "record", "ingest y")
}

// A write that fails makes the engine sick: it answers, and takes nothing.
func TestSick(t *testing.T) {
	for _, change := range []string{"flush", "checkpoint", "ingest x"} {
		c := stocked(t)
		watched := said(t, c, "watch 9 {}")
		oks(t, c, "arm 1 fail 0")
		goes(t, c, "> sick\n0")
		want := map[string]string{"ingest x": "refused 76"}[change]
		if want == "" {
			want = "error 76"
		}
		goes(t, c, fmt.Sprintf("> %s\n%s\n> sick\n1\n> flush\nerror 232\n> checkpoint\nerror 232\n> ingest x\nrefused 232", change, want))
		goes(t, c, "> stats\n3 1 0 1\n> take "+watched+" 5\nlost 0:\n> unwatch 0\nok\n> watch 1 {}\n1\n> find 0 {}\n3 0 7 1 0 7 2 0 7 3")
		goes(t, c, "> open 64 2 2\nsegments 1 first 0 next 1 torn 0\n> sick\n0")
		begins(t, c, "record 1", "ingest x")
	}
	// A Checkpoint whose block fails leaves it well.
	c := stocked(t)
	oks(t, c, "arm 2 fail 0")
	goes(t, c, "> checkpoint\nerror 76\n> sick\n0\n> checkpoint\nok")
}

func TestWatch(t *testing.T) {
	goes(t, stocked(t), `
> watch 2 {service="db"}   ||   {service = "log"}
0
> watch 1000 {}
1
> watch 1001 {}
error 1
> watch 0 {}
error 1
> watch 9223372036854775807 {}
error 1
> watch 1 {service = "db}
fault 162 at 11
> watch 1 {} {}
fault 163 at 3
> watch 1 {}
2
> take 0 9
lost 0:
> ingest x
record 1 fresh 0 better 0 kept 3
> take 0 0
lost 0:
> take 2 9223372036854775807
lost 2: 0.7.1
> take 2 1
lost 0:
> take 1 2
lost 0: 0.7.1 0.7.2
> unwatch 1
ok
> unwatch 1
error 221
> take 1 9
error 221
> watch 1 {}
3
> ingest x
record 2 fresh 0 better 0 kept 3
> take 3 0
lost 2:
> take 3 9
lost 0: 0.7.1
> take 0 1
lost 0: 0.7.2
> take 0 1
lost 0: 0.7.3
> take 4 1
error 221
> unwatch 9223372036854775807
error 221
`)
	c := opened(t)
	for i := range 16 {
		goes(t, c, fmt.Sprintf("> watch 1 {}\n%d", i))
	}
	goes(t, c, "> watch 1 {}\nerror 222\n> watch 0 {}\nerror 1\n> watch 1 {\nfault 163 at 1\n> unwatch 7\nok\n> watch 1 {}\n16")
}

func TestPrint(t *testing.T) {
	goes(t, console.New(), `
> print {}
{}
> print   {   }
{}
> print {.k="a  b"}
{.k = "a b"}
> print {a}
fault 163 at 1
> print ({}
fault 163 at 3
> print {dur =~ 5}
fault 163 at 5
> print {dur = "x"}
fault 164 at 7
> print {dur = 05}
fault 162 at 7
> print {} & {}
fault 162 at 3
> print (({})||{})   |top 5 by dur|count>2
{} || {} | top 5 by dur | count > 2
> print {dur>9223372036854775807}
{dur > 9223372036854775807ns}
> print #
fault 162 at 0
`)
	c := console.New()
	goes(t, c, "> print "+strings.Repeat("(", 50)+"{}"+strings.Repeat(")", 50)+"\nfault 165 at 50")
	goes(t, c, "> print "+strings.Repeat("(", 49)+"{}"+strings.Repeat(")", 49)+"\n{}")
	goes(t, c, "> print {service=\"\xff\"}\nfault 162 at 9")
}
