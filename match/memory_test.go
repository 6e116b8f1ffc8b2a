package match_test

import (
	"reflect"
	"slices"
	"sync"
	"testing"

	"spoor/api"
	"spoor/forest"
	"spoor/match"
)

const full = `({service = "db" and not .rows != 7}) > {kind = internal or (leaf = true or self < 3s)} && {} || {} ~ ({.rows =~ "x"} >> {}) | count > 2 | max dur >= 1ns | top 5 by start`

// roomy is a tree whose lists have room behind them, in which something stands.
func roomy(e api.Expr) api.Expr {
	room := append(slices.Clone(e.Args), all(), nots(2), api.Expr{Op: 77, Field: "x"})
	for i := range e.Args {
		room[i] = roomy(room[i])
	}
	e.Args = room[:len(e.Args)]
	return e
}

// copied is a tree in new memory, with all of its lists' spare room.
func copied(e api.Expr) api.Expr {
	room := slices.Clone(e.Args[:cap(e.Args)])
	for i := range room {
		room[i] = copied(room[i])
	}
	e.Args = room[:len(e.Args)]
	return e
}

// sameRoom: are trees the same, with their spare room?
func sameRoom(a, b api.Expr) bool {
	n := cap(a.Args)
	return a.Op == b.Op && a.Field == b.Field && a.Value == b.Value && len(a.Args) == len(b.Args) && n <= cap(b.Args) && slices.EqualFunc(a.Args[:n], b.Args[:n], sameRoom)
}

// P3: what is handed in is not written into, nor its spare room.
func TestQueriesStay(t *testing.T) {
	f := example(t)
	before := everything(f)
	q := read(t, full)
	q.Set = roomy(q.Set)
	q.Stages = append(q.Stages, api.Stage{Name: "x"}, api.Stage{Name: "y"})[:len(q.Stages)]
	tree, stages := copied(q.Set), slices.Clone(q.Stages[:cap(q.Stages)])
	cond := roomy(read(t, `{not (status = failed or .rows = 7) and self > 0}`).Set.Args[0])
	condBefore := copied(cond)
	for range 2 {
		found(t, q, f)
		setOf(t, q.Set, f)
		holds(t, cond, f, 2)
		if _, e := match.Steps(q, f); e != api.OK {
			t.Fatal(e)
		}
		if !sameRoom(tree, q.Set) || !slices.Equal(q.Stages[:cap(q.Stages)], stages) || !sameRoom(condBefore, cond) {
			t.Fatalf("it was written into: %+v", q)
		}
		if !reflect.DeepEqual(everything(f), before) {
			t.Fatal("the forest changed")
		}
	}
}

// everything is all that a forest tells.
func everything(f *forest.Forest) []any {
	l := []any{f.IDs(), f.Roots(), slices.Collect(f.Down())}
	for _, id := range f.IDs() {
		s, _ := f.Span(id)
		l = append(l, s, f.Children(id))
	}
	return l
}

// P3: answers are the caller's, with their spare room: nothing that is written into one is seen in another, or in the forest.
func TestAnswersAreNew(t *testing.T) {
	f := example(t)
	before := everything(f)
	for _, s := range []string{`{}`, `{dur > 0}`, `{} > {}`, `{} || {}`, `{} | count > 0`, `{} | top 3 by dur`, `{} | top 100 by dur`} {
		q := read(t, s)
		want, other := slices.Clone(found(t, q, f)), found(t, q, f)
		sets, otherSet := setOf(t, q.Set, f), setOf(t, q.Set, f)
		all := slices.Clone(otherSet)
		for _, l := range [][]api.SpanID{found(t, q, f), sets} {
			for i := range l[:cap(l)] {
				l[:cap(l)][i] = 77
			}
		}
		if len(want) == 0 || !slices.Equal(other, want) || !slices.Equal(otherSet, all) || !slices.Equal(found(t, q, f), want) || !slices.Equal(setOf(t, q.Set, f), all) {
			t.Errorf("%s: %v, %v", s, other, want)
		}
	}
	if !reflect.DeepEqual(everything(f), before) {
		t.Error("the forest changed")
	}
}

// What was asked of a query's tree is not kept: written into, it is another query.
func TestNothingIsKept(t *testing.T) {
	f := example(t)
	q := read(t, `{service = "db"} | top 1 by dur`)
	finding(t, f, q, "first", ids(3))
	q.Set.Args[0].Value.Text = "web"
	finding(t, f, q, "then", ids(1))
	q.Set.Args[0].Op = 0
	errs(t, q, f, api.ErrLangTree)
	q.Set.Args[0].Op = api.OpNe
	q.Stages[0].Field = "start"
	finding(t, f, q, "last", ids(9))
	finding(t, f, of(q.Set), "the set", ids(2, 3, 4, 9))
}

// A forest never changes: several hands may ask of one at a time.
func TestManyHands(t *testing.T) {
	f := example(t)
	q := read(t, `{self > 0} >> {total > 0} | top 3 by self`)
	want := found(t, q, f)
	got := make([][]api.SpanID, 8)
	var w sync.WaitGroup
	for i := range got {
		w.Go(func() {
			for range 50 {
				got[i], _ = match.Find(q, f)
			}
		})
	}
	w.Wait()
	for _, l := range got {
		if len(want) == 0 || !slices.Equal(l, want) {
			t.Error(l, want)
		}
	}
}
