package console_test

import (
	"strings"
	"testing"

	"spoor/api"
	"spoor/console"
)

// The chapter's examples, and the ten of the whole.

const chapter = `
> stats
error 242
> span a 7 1 0 web get 10 30
ok
> span A 7 1 0 web get 10 30
error 241
> check b
error 242
> attr a k text so  it   is
ok
> attr a n int 3
ok
> attr a z bool 1
ok
> attr a z real 1
error 241
> check a
ok
> print {service="db"}>>{dur>1500000ns}
{service = "db"} >> {dur > 1500us}
> print {
fault 163 at 1
> policy 1 0 - 0
ok
> verdict a
0 policy -1 weight 0.0
> names
spans a; batches
> span a 7 0 0 web get 10 30
ok
> check a
error 41
`

const ten = `
> open 64 2 2
segments 1 first 0 next 0 torn 0
> stats
0 0 0 0
> span web 7 1 0 web get 0 100
ok
> span db 7 2 1 db query 10 60
ok
> span log 7 3 1 log write 40 90
ok
> batch x web db log
124 bytes 48ae4e82
> ingest x
record 0 fresh 3 better 0 kept 0
> flush
ok
> forest 7
3 1 0 1 1 0 0 100 2 1 0 1 1 10 60 3 1 0 1 1 40 90
> path 7 1
4 1 0 10 2 10 40 3 40 90 1 90 100
> own 7
3 1 100 20 20 2 50 50 30 3 50 50 50
> deps 0 1
2 web db 1 0 50 50 50 50 50 50 50 web log 1 0 50 50 50 50 50 50 50
> windows 0 3
2 0 2 2 web db 1 0 50 50 50 50 50 50 50 web log 1 0 50 50 50 50 50 50 50 2 1 0
> find 0 {service = "db"}
1 0 7 2
> find 2 {service = "db"}
error 31
> find 4 {service = "db"}
1 0 7 2
> find 0 {a}
fault 163 at 1
> span db 7 2 9 db query 10 70
ok
> status db 2
ok
> batch y db
56 bytes 130697c1
> watch 5 {status = failed}
0
> ingest y
record 1 fresh 0 better 1 kept 0
> take 0 9
lost 0: 0.7.2
> forest 7
3 1 0 1 1 0 0 100 3 1 0 1 1 40 90 2 0 2 2 0 10 70
> deps 0 1
1 web log 1 0 50 50 50 50 50 50 50
> files
seg-0000000000:180 seg-0000000001:112
> power 0 0 30
ok
> open 64 2 2
segments 2 first 0 next 1 torn 30
> ingest y
record 1 fresh 0 better 1 kept 0
> checkpoint
ok
> files
blk-00000000000000000002:212 seg-0000000001:112
> power 0
ok
> open 64 2 1
segments 1 first 1 next 2 torn 0
> stats
3 1 0 1
> spoil x 0 00
ok
> ingest x
refused 52 at 0
> flip blk-00000000000000000002 30 1
ok
> open 64 2 1
file blk-00000000000000000002 error 201 at 0
`

func TestExamples(t *testing.T) { goes(t, console.New(), chapter) }

func TestTenExamples(t *testing.T) { goes(t, console.New(), ten) }

// C3: as a script they are answered as line by line.
func TestExamplesAsScripts(t *testing.T) {
	for _, transcript := range []string{chapter, ten} {
		var lines, answers []string
		for _, part := range strings.Split("\n"+strings.Trim(transcript, "\n"), "\n> ")[1:] {
			line, answer, _ := strings.Cut(part, "\n")
			lines, answers = append(lines, line), append(answers, answer)
		}
		for range 2 { // a script's console is its own
			got, n, why := console.Run(strings.Join(lines, "\n"))
			if want := strings.Join(answers, "\n") + "\n"; got != want || n != len(lines) || why != api.OK {
				t.Errorf("%q, %d, %d; not %q, %d", got, n, int(why), want, len(lines))
			}
		}
	}
}
