package gang

import (
	"spoor/api"
	"spoor/halt"
)

// loop is one time that an Each is ranged over.
type loop[T any] struct {
	stop   *halt.Stop
	crew   *crew
	slots  []chan *answer[T] // numbers that are under way at the same time lie less apart than there are slots: each has one, with room, so that no goroutine waits for the loop
	n      int
	handed int // how many numbers were handed out
}

// answer is what f has answered for one number. It goes by a pointer, since a channel takes no great things.
type answer[T any] struct {
	value T
	err   api.Errno
}

// newLoop makes one with at most size numbers under way, whose goroutines wait for them.
func newLoop[T any](stop *halt.Stop, size, n int, f func(i int) (T, api.Errno)) *loop[T] {
	l := &loop[T]{stop: stop, crew: newCrew(stop), slots: make([]chan *answer[T], size), n: n}
	for i := range l.slots {
		l.slots[i] = make(chan *answer[T], 1)
	}
	l.crew.start(size, func(i int) {
		value, e := f(i)
		l.slots[i%size] <- &answer[T]{value, e}
	})
	return l
}

// pair is what is told for a number: an error is the last one.
func (l *loop[T]) pair(i int) (T, api.Errno) {
	var none T
	if !l.handOut(min(i+len(l.slots), l.n)) {
		return none, l.stop.Why()
	}
	// The stop is not looked at while f is waited for: it would be chance which of the two is told.
	got := <-l.slots[i%len(l.slots)]
	if got.err != api.OK {
		return none, got.err
	}
	return got.value, api.OK
}

// handOut hands out all numbers below that one; false: the stop is cancelled.
func (l *loop[T]) handOut(below int) bool {
	if l.crew.over() {
		return false
	}
	for l.handed < below && l.crew.hand(l.handed, nil) {
		l.handed++
	}
	return l.handed == below
}
