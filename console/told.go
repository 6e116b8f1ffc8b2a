package console

import (
	"strconv"
	"strings"

	"spoor/api"
	"spoor/wire"
)

// told is an answer of the engine's, and the words of what was taken of it. The engine's answers have what their kinds say: no call of the reader refuses it.
type told struct {
	*wire.Reader
	words []string
}

// telling is an answer as words, with a blank between each two.
func telling(answer []byte, tell func(*told)) string {
	t := &told{Reader: wire.NewReader(answer)}
	why, _ := t.Uint()
	if why == uint64(api.OK) {
		tell(t)
		return strings.Join(t.words, " ")
	}
	if t.Left() == 0 { // no place: it is not the query that is wrong
		giveUp(api.Errno(why))
	}
	at, _ := t.Uint()
	return faultAt(api.Errno(why), int(at))
}

func (t *told) say(word string) { t.words = append(t.words, word) }

// plain says so many numbers that are never below 0.
func (t *told) plain(many int) {
	for range many {
		v, _ := t.Uint()
		t.say(strconv.FormatUint(v, 10))
	}
}

// signed says so many numbers that may be below 0.
func (t *told) signed(many int) {
	for range many {
		v, _ := t.Int()
		t.say(strconv.FormatInt(v, 10))
	}
}

func (t *told) texts(many int) {
	for range many {
		s, _ := t.Text(t.Left())
		t.say(s)
	}
}

// list says how many there are, and each of them.
func (t *told) list(each func(*told)) {
	many, _ := t.Uint()
	t.say(strconv.FormatUint(many, 10))
	for range many {
		each(t)
	}
}

func (t *told) spans()   { t.list((*told).span) }
func (t *told) nodes()   { t.list((*told).node) }
func (t *told) times()   { t.list((*told).time) }
func (t *told) legs()    { t.list((*told).leg) }
func (t *told) hops()    { t.list((*told).hop) }
func (t *told) rows()    { t.list((*told).row) }
func (t *told) windows() { t.list((*told).window) }
func (t *told) traces()  { t.list((*told).trace) }
func (t *told) hits()    { t.list((*told).hit) }

// services says both lists: those of the path, and those of the innermost.
func (t *told) services() {
	t.list((*told).service)
	t.list((*told).service)
}

func (t *told) counts() {
	t.plain(2)
	t.signed(2)
}

func (t *told) plan() {
	t.list((*told).term)
	t.plain(1)
}

// span says a span's bytes by how many there are, and their sum.
func (t *told) span() {
	size, _ := t.Uint()
	b, _ := t.Raw(int(size))
	t.say(strconv.Itoa(len(b)))
	t.say(sumOf(b))
}

func (t *told) node() {
	t.plain(5)
	t.signed(2)
}

func (t *told) time() { t.plain(4) }

func (t *told) leg() {
	t.plain(1)
	t.signed(2)
}

func (t *told) hop() {
	t.plain(2)
	t.signed(1)
	t.legs()
}

func (t *told) service() {
	t.texts(1)
	t.plain(1)
}

func (t *told) row() {
	t.texts(2)
	t.plain(9)
}

func (t *told) window() {
	t.signed(2)
	t.rows()
}

func (t *told) trace() { t.plain(3) }
func (t *told) hit()   { t.plain(3) }
func (t *told) term()  { t.texts(2) }
