package console

import "spoor/api"

// reader takes a command's fields from a line, and tells what is to be done then.
type reader func(c *Console, l *line) act

// act does what a line says, and tells its answer.
type act func() string

// done is the answer of a command that has nothing to tell.
const done = "ok"

// readerFor has the commands, as the chapter's table has them.
func readerFor(name string) reader {
	table := []struct {
		name string
		read reader
	}{
		{"span", (*Console).span},
		{"kind", (*Console).kind},
		{"status", (*Console).status},
		{"link", (*Console).link},
		{"attr", (*Console).attr},
		{"event", (*Console).event},
		{"check", (*Console).check},
		{"batch", (*Console).batch},
		{"spoil", (*Console).spoil},
		{"read", (*Console).read},
		{"open", (*Console).open},
		{"ingest", (*Console).ingest},
		{"flush", (*Console).flush},
		{"checkpoint", (*Console).checkpoint},
		{"sick", (*Console).sick},
		{"arm", (*Console).arm},
		{"power", (*Console).power},
		{"pending", (*Console).pending},
		{"files", (*Console).files},
		{"bytes", (*Console).bytes},
		{"flip", (*Console).flip},
		{"trace", asking(1, (*request).trace, (*told).spans)},
		{"forest", asking(2, (*request).trace, (*told).nodes)},
		{"own", asking(3, (*request).trace, (*told).times)},
		{"chain", asking(5, (*request).trace, (*told).hops)},
		{"path", asking(4, (*request).traceAndNumber, (*told).legs)},
		{"services", asking(6, (*request).traceAndNumber, (*told).services)},
		{"deps", asking(7, (*request).hours, (*told).rows)},
		{"windows", asking(9, (*request).hours, (*told).windows)},
		{"top", asking(8, (*request).top, (*told).rows)},
		{"traces", asking(10, (*request).traceAndNumber, (*told).traces)},
		{"stats", asking(11, (*request).nothing, (*told).counts)},
		{"find", asking(12, (*request).search, (*told).hits)},
		{"plan", asking(13, (*request).query, (*told).plan)},
		{"ask", (*Console).ask},
		{"print", (*Console).print},
		{"watch", (*Console).watch},
		{"take", (*Console).take},
		{"unwatch", (*Console).unwatch},
		{"policy", (*Console).policy},
		{"verdict", (*Console).verdict},
		{"names", (*Console).names},
	}
	for _, row := range table {
		if row.name == name {
			return row.read
		}
	}
	panic(gaveUp{api.ErrConsoleLine})
}
