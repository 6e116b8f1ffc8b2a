package lang_test

import (
	"slices"
	"testing"

	"spoor/api"
	"spoor/lang"
)

const full = `(({service = "a\"b" and not .k != 5ms}) > {kind = client or (leaf = true or dur < 3s)}) && {} || {} ~ ({.key =~ "x"} >> {}) | count > 2 | max dur >= 1ms | top 5 by start`

// copied is a tree in new memory, with all of its lists' spare room.
func copied(e api.Expr) api.Expr {
	room := slices.Clone(e.Args[:cap(e.Args)])
	for i := range room {
		room[i] = copied(room[i])
	}
	e.Args = room[:len(e.Args)]
	return e
}

// roomy is a tree whose lists have room behind them, in which something stands.
func roomy(e api.Expr) api.Expr {
	room := append(slices.Clone(e.Args), leaf(), all(), api.Expr{Op: 77, Field: "x"})
	for i := range e.Args {
		room[i] = roomy(room[i])
	}
	e.Args = room[:len(e.Args)]
	return e
}

// sameRoom: are trees the same, with their spare room?
func sameRoom(a, b api.Expr) bool {
	n := cap(a.Args)
	return a.Op == b.Op && a.Field == b.Field && a.Value == b.Value && len(a.Args) == len(b.Args) && n <= cap(b.Args) && slices.EqualFunc(a.Args[:n], b.Args[:n], sameRoom)
}

// spoil writes into all lists of a tree, the innermost first, and into their spare room.
func spoil(e api.Expr) {
	for _, a := range e.Args[:cap(e.Args)] {
		spoil(a)
	}
	for i := range e.Args[:cap(e.Args)] {
		e.Args[:cap(e.Args)][i] = api.Expr{Op: 77, Field: "spoilt"}
	}
}

func read(t *testing.T, s string) api.Query {
	t.Helper()
	q, err := lang.Parse(s)
	if err != nil {
		t.Fatal(err)
	}
	return q
}

// P3: neither Check nor Print writes into a query, nor keeps it.
func TestQueriesStay(t *testing.T) {
	q := read(t, full)
	bad := read(t, full)
	bad.Set.Args[1].Args[1].Args[0].Op = 0
	for _, q := range []api.Query{q, bad} {
		q.Set = roomy(q.Set)
		q.Stages = append(q.Stages, api.Stage{Name: "x"})[:len(q.Stages)]
		tree, stages := copied(q.Set), slices.Clone(q.Stages[:cap(q.Stages)])
		first, e := lang.Print(q)
		c := lang.Check(q)
		if !sameRoom(tree, q.Set) || !slices.Equal(q.Stages[:cap(q.Stages)], stages) {
			t.Fatalf("it was written into: %+v", q)
		}
		if again, f := lang.Print(q); again != first || e != f || c != e || lang.Check(q) != c {
			t.Fatal(again, first, e, f, c)
		}
	}
}

// P3 and P4: what Parse tells is the caller's: no other answer has part in it.
func TestAnswersAreNew(t *testing.T) {
	one, other, want := read(t, full), read(t, full), read(t, full)
	spoil(one.Set)
	for i := range one.Stages[:cap(one.Stages)] {
		one.Stages[:cap(one.Stages)][i] = api.Stage{Name: "spoilt"}
	}
	if !same(other, want) || !same(read(t, full), want) {
		t.Fatalf("%+v, not %+v", other, want)
	}
}

// P3: no two lists of one answer share memory, spare room and all.
func TestListsOfOneAnswer(t *testing.T) {
	var seen []*api.Expr
	var gather func(e api.Expr)
	gather = func(e api.Expr) {
		l := e.Args[:cap(e.Args)]
		for i := range l {
			if slices.Contains(seen, &l[i]) {
				t.Fatal("two lists share memory")
			}
			seen = append(seen, &l[i])
		}
		for _, a := range e.Args {
			gather(a)
		}
	}
	gather(read(t, full).Set)
	if len(seen) < 20 {
		t.Fatal(len(seen))
	}
}

// What is found wrong in one text is not seen in the next one.
func TestNothingIsKept(t *testing.T) {
	for _, bad := range []string{"{dur = ", "((((((", "{not not (", "{} | top 5", "{op = \"a", ""} {
		if _, err := lang.Parse(bad); err == nil {
			t.Fatal(bad)
		}
		reads(t, "{}", of(all()))
	}
}
