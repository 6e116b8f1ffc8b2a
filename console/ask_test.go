package console_test

import (
	"fmt"
	"strings"
	"testing"

	"spoor/console"
)

// hour is a moment in that hour.
func hour(h, nanos int64) int64 { return h*3600000000000 + nanos }

// roomy is a console whose engine has two traces more than stocked: 8, of two trees that follow one another, in the hours 0 and 1, and 9, of one span in the hour 5.
func roomy(t testing.TB) *console.Console {
	c := stocked(t)
	oks(t, c,
		"span a 8 1 0 web get 0 100", "span b 8 2 1 db query 20 50",
		fmt.Sprintf("span c 8 5 0 web then %d %d", hour(1, 0), hour(1, 90)), "link c 2",
		fmt.Sprintf("span d 8 6 5 db query %d %d", hour(1, 10), hour(1, 30)), "status d 2", "attr d rows int 3",
		fmt.Sprintf("span e 9 1 0 job run %d %d", hour(5, 0), hour(5, 7)), "kind e 3", "attr e on bool 1", "attr e why text no  reason",
	)
	does(t, c, "batch y a b c d e", "ingest y")
	return c
}

// Of each span how many bytes it has, and their sum (which was got from the bytes as chapter 4 has them, by hand).
func TestTrace(t *testing.T) {
	goes(t, roomy(t), `
> trace 9
1 81 594e5fbf
> trace 7
3 47 79ef16f3 48 9341753b 49 1344a285
> trace 0
error 233
> trace 10
error 233
> trace 9223372036854775807
error 233
`)
}

func TestTrees(t *testing.T) {
	c := roomy(t)
	goes(t, c, fmt.Sprintf(`
> forest 8
4 1 0 1 1 0 0 100 2 1 0 1 1 20 50 5 0 1 5 0 %[1]d %[2]d 6 5 0 5 1 %[3]d %[4]d
> own 8
4 1 100 70 70 2 30 30 30 5 90 70 70 6 20 20 20
> path 8 5
3 5 %[1]d %[3]d 6 %[3]d %[4]d 5 %[4]d %[2]d
> chain 8
2 5 5 0 3 5 %[1]d %[3]d 6 %[3]d %[4]d 5 %[4]d %[2]d 1 2 %[5]d 3 1 0 20 2 20 50 1 50 100
> services 8 1
2 db 30 web 70 2 db 30 web 70
> services 7 1
3 db 30 log 50 web 20 3 db 30 log 50 web 20
`, hour(1, 0), hour(1, 90), hour(1, 10), hour(1, 30), hour(1, 0)-50))
	// Trees that overlap: the gap is below 0.
	oks(t, c, "span f 10 1 0 a b 0 20", "span g 10 2 0 a b 13 30", "link g 1")
	does(t, c, "batch z f g", "ingest z")
	goes(t, c, "> chain 10\n2 2 2 0 1 2 13 30 1 1 -7 1 1 0 20")
	for _, line := range []string{"forest 1", "own 1", "chain 1", "path 1 1", "services 1 1", "path 8 2", "path 8 0", "path 8 3", "services 8 6", "services 8 0", "path 8 9223372036854775807"} {
		goes(t, c, "> "+line+"\nerror 233")
	}
}

func TestHours(t *testing.T) {
	db := func(calls, failed, took int) string {
		return fmt.Sprintf("web db %d %d %d", calls, failed, took)
	}
	log := "web log 1 0 50 50 50 50 50 50 50"
	goes(t, roomy(t), fmt.Sprintf(`
> deps 0 1
2 %[1]s 30 30 50 50 50 50 %[4]s
> deps 0 2
2 %[2]s 30 30 50 50 50 50 %[4]s
> deps 1 2097152
1 %[3]s 20 20 20 20 20 20
> deps 2 9
0
> deps 3 3
0
> deps 2 1
error 151
> deps 0 2097153
error 151
> deps 0 9223372036854775807
error 151
> windows 1 4
2 1 1 1 %[3]s 20 20 20 20 20 20 2 2 0
> windows 0 2
1 0 2 2 %[2]s 30 30 50 50 50 50 %[4]s
> windows 5 5
0
> windows 5 4
error 151
> top 0 2 0 9
2 %[2]s 30 30 50 50 50 50 %[4]s
> top 0 2 1 1
1 %[2]s 30 30 50 50 50 50
> top 1 2 2 1000
1 %[3]s 20 20 20 20 20 20
> top 0 2 2 0
0
> top 0 2 3 1
error 1
> top 0 2 300 1
error 1
> top 0 2 0 1001
error 1
> top 0 2 9223372036854775807 9223372036854775807
error 1
> top 2 0 3 1
error 151
`, db(2, 0, 80), db(3, 1, 100), db(1, 1, 20), log))
}

func TestTraces(t *testing.T) {
	goes(t, roomy(t), `
> traces 0 9
3 0 7 3 0 8 4 0 9 1
> traces 7 1
1 0 8 4
> traces 8 9223372036854775807
1 0 9 1
> traces 9 5
0
> traces 0 0
0
> traces 9223372036854775807 1000
0
> stats
8 3 0 2
`)
}

func TestFind(t *testing.T) {
	goes(t, roomy(t), `
> find 0 {}
8 0 7 1 0 7 2 0 7 3 0 8 1 0 8 2 0 8 5 0 8 6 0 9 1
> find 0   {service   =   "db"}   >>   {}
0
> find 0 {service = "web"} > {dur < 40ns} | top 1 by start
1 0 8 6
> find 11 {}
8 0 7 1 0 7 2 0 7 3 0 8 1 0 8 2 0 8 5 0 8 6 0 9 1
> find 10 {}
error 31
> find 1 {}
error 31
> find 9223372036854775807 {service = "none"}
0
> find 0 {.why = "no reason"}
1 0 9 1
> find 0 {}}
fault 163 at 2
> find 0 {service = 5}
fault 164 at 11
> find 0 {service = "x
fault 162 at 11
`)
}

func TestPlan(t *testing.T) {
	goes(t, roomy(t), `
> plan {}
0 3
> plan {service = "db"}
1 service db 2
> plan {service = "db" and .rows = 3}
2 .rows 3 service db 1
> plan {.why = "no   reason" and op = ""}
2 .why "no reason op  0
> plan {.on = true} || {.on = true and .why = "x"}
1 .on true 1
> plan {
fault 163 at 1
`)
}

// A query that is no UTF-8 makes no request at all; what is read as a query first has a place.
func TestQueriesThatAreNoText(t *testing.T) {
	c := stocked(t)
	for _, text := range []string{"\xff", "{service = \"\xff\"}", "{} \xc3\x28"} {
		for _, x := range [][2]string{{"find 0 ", "error 234"}, {"plan ", "error 234"}} {
			if got := said(t, c, x[0]+text); got != x[1] {
				t.Errorf("%q: %s", x[0]+text, got)
			}
		}
		for _, command := range []string{"watch 1 ", "print "} {
			if got := said(t, c, command+text); !strings.HasPrefix(got, "fault 162 at ") {
				t.Errorf("%q: %s", command+text, got)
			}
		}
	}
}

// ask tells an answer as it is, also one of an error.
func TestAsk(t *testing.T) {
	goes(t, stocked(t), `
> ask 0b
0003010002
> ask 0e
ea01
> ask 0b00
ea01
> ask 010008
e901
> ask 0300070000
ea01
> ask 030007
0003016414140232321e03323232
> ask 0d017b
a30101
> ask 0c027b7d02
1f
> ask 0c027b7d04
0003000701000702000703
`)
}
