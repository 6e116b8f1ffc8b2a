package gang

import (
	"sync"

	"spoor/api"
)

// answers is what f has answered to the goroutines of one Map.
type answers[T any] struct {
	lock   sync.Mutex
	list   []T // as long as the numbers that have come, not as long as all: f may fail soon, and a T may be great
	least  int // the least number for which there was an error, and that error
	err    api.Errno
	failed chan struct{} // closed with the first error
}

func newAnswers[T any]() *answers[T] {
	return &answers[T]{failed: make(chan struct{})}
}

// wants tells whether f is to be asked for a number: behind an error only for the lesser ones, whose error would count.
func (a *answers[T]) wants(i int) bool {
	a.lock.Lock()
	defer a.lock.Unlock()
	return a.err == api.OK || i < a.least
}

func (a *answers[T]) put(i int, value T, e api.Errno) {
	a.lock.Lock()
	defer a.lock.Unlock()
	if e != api.OK {
		a.fail(i, e)
	}
	if a.err != api.OK {
		return
	}
	if lacks := i + 1 - len(a.list); lacks > 0 {
		a.list = append(a.list, make([]T, lacks)...)
	}
	a.list[i] = value
}

// fail notes an error. The lock is held.
func (a *answers[T]) fail(i int, e api.Errno) {
	if a.err == api.OK {
		close(a.failed)
		a.list = nil
	} else if i > a.least {
		return
	}
	a.least, a.err = i, e
}
