package console_test

import (
	"slices"
	"strings"
	"testing"

	"spoor/api"
	"spoor/console"
)

// shapes are the lines of the chapter's table: a form in the place of each field that has one.
func shapes() []string {
	return []string{
		"span NAME NUMBER NUMBER NUMBER FIELD FIELD NUMBER NUMBER",
		"kind NAME BYTE", "status NAME BYTE", "link NAME NUMBER",
		"attr NAME FIELD text REST", "attr NAME FIELD int NUMBER", "attr NAME FIELD bool BIT",
		"event NAME NUMBER REST", "check NAME",
		"batch NAME", "batch NAME NAME", "batch NAME NAME NAME",
		"spoil NAME NUMBER HEX", "read NAME",
		"open NUMBER NUMBER NUMBER", "ingest NAME", "flush", "checkpoint", "sick",
		"arm NUMBER HOW NUMBER", "power NUMBER", "power NUMBER NUMBER", "power NUMBER NUMBER NUMBER", "pending", "files",
		"bytes FIELD NUMBER NUMBER", "flip FIELD NUMBER BYTE",
		"trace NUMBER", "forest NUMBER", "own NUMBER", "chain NUMBER", "path NUMBER NUMBER", "services NUMBER NUMBER",
		"deps NUMBER NUMBER", "windows NUMBER NUMBER", "top NUMBER NUMBER NUMBER NUMBER", "traces NUMBER NUMBER", "stats",
		"find NUMBER REST", "plan REST", "ask HEX", "print REST", "watch NUMBER REST", "take NUMBER NUMBER", "unwatch NUMBER",
		"policy BYTE NUMBER FIELD NUMBER", "verdict NAME", "verdict NAME NAME", "names",
	}
}

// forms has, of each form, fields that are of it, and fields that are not.
func forms() map[string][2][]string {
	noNumbers := []string{"00", "01", "007", "-1", "+1", "1.0", "1e3", "0x1", "1_0", "a", "1a", "a1", "\t1", "1\r", "１", "٣", "\xff", "9223372036854775808", "9999999999999999999", "10000000000000000000", "00000000000000000001"}
	long := strings.Repeat("k", 16)
	return map[string][2][]string{
		"NAME":   {{"a", "z", "zz", "a-", "a--9", "a0", long, "a" + strings.Repeat("-", 15)}, {long + "k", "A", "aB", "0", "0a", "9", "-", "-a", "a_", "a.b", "a,", "a\t", "é", "aé", "a\x00", "a\xff", "`", "a{", "a/", "a:"}},
		"NUMBER": {{"0", "1", "9", "10", "909", "4294967296", "9223372036854775807", "1000000000000000000"}, noNumbers},
		"BYTE":   {{"0", "1", "9", "10", "99", "128", "255"}, append(slices.Clone(noNumbers), "256", "257", "300", "512", "9223372036854775807")},
		"BIT":    {{"0", "1"}, append(slices.Clone(noNumbers), "2", "10", "9", "true", "256")},
		"HEX":    {{"00", "0f", "abcdef", "0123456789", "ff00ff"}, {"0", "f", "000", "AB", "aB", "0g", "g0", "/0", "0:", "`0", "0x00x0", "-1", "+1", "0_", "\xff\xff", "éé"}},
		"HOW":    {{"stop", "fail"}, {"Stop", "FAIL", "0", "1", "sto", "stopp", "fails", "stop\t"}},
		"FIELD":  {{"a", "#", "-", "0", "\"", "\t", "\x00", "\xff", "é", "text"}, nil},
		"REST":   {{"a", "#", "a b", "# #", "\"", "\x00 \xff", "text int bool", "0 0 0 0 0 0 0 0 0 0"}, nil},
		"text":   {{"text"}, {"Text", "texts", "tex", "real", "0"}},
		"int":    {{"int"}, {"Int", "ints", "in", "float", "1"}},
		"bool":   {{"bool"}, {"Bool", "boo", "boolean"}},
	}
}

// filled is a line of a shape, with the first field of each form, but with one in the place of the field at.
func filled(shape string, at int, field string) string {
	fields := strings.Split(shape, " ")
	for i := range fields {
		if f, is := forms()[fields[i]]; i == at {
			fields[i] = field
		} else if is {
			fields[i] = f[0][0]
		}
	}
	return strings.Join(fields, " ")
}

func isLine(t *testing.T, line string, is bool) {
	t.Helper()
	_, why := console.New().Do(line)
	if why == api.ErrConsoleLong || (why == api.ErrConsoleLine) == is {
		t.Errorf("%q: %d", line, int(why))
	}
}

// C1: each field must be of its form, whatever else is wrong: none of the names is there, and no engine.
func TestForms(t *testing.T) {
	for _, shape := range shapes() {
		isLine(t, filled(shape, -1, ""), true)
		for i, form := range strings.Split(shape, " ") {
			for _, right := range forms()[form][0] {
				isLine(t, filled(shape, i, right), true)
			}
			for _, wrong := range forms()[form][1] {
				isLine(t, filled(shape, i, wrong), false)
			}
		}
	}
}

// C1: just the fields that stand there: none less, and none more, but of lists and of a REST.
func TestHowManyFields(t *testing.T) {
	all := map[string]bool{}
	for _, shape := range shapes() {
		all[filled(shape, -1, "")] = true
	}
	for line := range all {
		fields := strings.Split(line, " ")
		for n := 1; n < len(fields); n++ {
			less := strings.Join(fields[:n], " ")
			isLine(t, less, all[less])
		}
		open := slices.Contains([]string{"batch", "power", "verdict", "event", "find", "plan", "print", "watch"}, fields[0]) || fields[0] == "attr" && fields[3] == "text"
		isLine(t, line+" "+fields[len(fields)-1], open)
		isLine(t, line+" ~", open && !slices.Contains([]string{"batch", "power", "verdict"}, fields[0]))
	}
}

func TestNoCommand(t *testing.T) {
	for _, line := range []string{"x", "Stats", "STATS", "stat", "statss", "stats.", "help", "ok", "0", "-", "\xff", "stats\t", "\tstats", "stats\r", "\r", "\t", "\t#", "\x00", "-#", "NAME", "text", "forest\u00a07", "names,"} {
		isLine(t, line, false)
	}
}

// A line that does nothing is answered by nothing.
func TestIdleLines(t *testing.T) {
	c := console.New()
	for _, line := range []string{"", " ", "     ", strings.Repeat(" ", 300), "#", "#stats", "# stats", "  # span A", "##", "#\t\r\x00\xff", "#" + strings.Repeat("x", 299)} {
		if answer, why := c.Do(line); answer != "" || why != api.OK {
			t.Errorf("%q: %q %d", line, answer, int(why))
		}
	}
}

// Several blanks count as one, those ahead and at the end as none; nothing else is a blank.
func TestBlanks(t *testing.T) {
	goes(t, opened(t), `
>    stats
0 0 0 0
> stats   
0 0 0 0
>   span    a  7 1 0   web get 10     30  
ok
> names  
spans a; batches
> span b 7 1 0 web	x get 10 30
ok
> check b
error 43
> attr a	b int 3
error 241
>   print   {  }   ||   {}  
{} || {}
`)
}

func TestLongLines(t *testing.T) {
	c := console.New()
	long := "print {" + strings.Repeat(" ", 293)
	for _, x := range []struct {
		line string
		why  api.Errno
	}{
		{long[:299] + "}", api.OK}, {long + "}", api.ErrConsoleLong}, {strings.Repeat(" ", 301), api.ErrConsoleLong}, {"#" + strings.Repeat("x", 300), api.ErrConsoleLong},
		{strings.Repeat("\n", 301), api.ErrConsoleLong}, {strings.Repeat("\n", 300), api.ErrConsoleLine}, {strings.Repeat("é", 150), api.ErrConsoleLine}, {strings.Repeat("é", 151), api.ErrConsoleLong},
		{strings.Repeat("x ", 10000), api.ErrConsoleLong},
	} {
		if _, why := c.Do(x.line); why != x.why {
			t.Errorf("%q: %d, not %d", x.line, int(why), int(x.why))
		}
	}
}

// A byte 10 may stand nowhere in a line.
func TestLineFeeds(t *testing.T) {
	c := opened(t)
	for _, line := range []string{"\n", "#\n", "\n#", "# a\nstats", "stats\n", "\nstats", " \n ", "stats \n", "print {\n}", "span a 7 1 0 web\n get 10 30", "nothing\n"} {
		if answer, why := c.Do(line); answer != "" || why != api.ErrConsoleLine {
			t.Errorf("%q: %q %d", line, answer, int(why))
		}
	}
	goes(t, c, "> names\nspans; batches")
}

// C1: of several errors the one that is named first.
func TestWhichErrorFirst(t *testing.T) {
	c := console.New()
	oks(t, c, "span bad 0 0 0 web get 9 3")
	begins(t, c, "6 bytes", "batch full")
	for _, name := range []string{"b1", "b2", "b3", "b4", "b5", "b6", "b7", "b8", "b9", "b10", "b11", "b12", "b13", "b14", "b15"} {
		begins(t, c, "6 bytes", "batch "+name)
	}
	goes(t, c, `
> kind none 256
error 241
> kind none 255
error 242
> batch more bad
error 242
> batch full bad
fault 41 at 0
> batch full none
error 242
> batch full bad none
error 242
> spoil none 99 00
error 242
> spoil full 99 00
error 74
> ingest none
error 242
> ingest full
error 242
> watch 0 {
error 242
> take 99 0
error 242
> find 0 {
error 242
> top 9 0 9 9
error 242
> open 64 2 2
segments 1 first 0 next 0 torn 0
> watch 0 {
fault 163 at 1
> watch 0 {}
error 1
> take 99 0
error 221
> find 0 {
fault 163 at 1
> top 9 0 9 9
error 151
> top 0 9 9 9
error 1
> ingest none
error 242
> verdict bad none
error 242
> verdict bad
error 101
`)
}
