package gang

import (
	"sync"

	"spoor/halt"
)

// crew is the goroutines of one Map, or of one loop, and how numbers come to them.
type crew struct {
	numbers chan int        // without room: what was sent is in the hands of one of them
	done    <-chan struct{} // the stop's; nil, which is never ready, without one
	join    sync.WaitGroup
}

func newCrew(stop *halt.Stop) *crew {
	c := &crew{numbers: make(chan int)}
	if stop != nil {
		c.done = stop.Done()
	}
	return c
}

// start has so many goroutines take numbers, and do something with each.
func (c *crew) start(size int, do func(i int)) {
	for range size {
		c.join.Add(1)
		go func() {
			defer c.join.Done()
			c.work(do)
		}()
	}
}

func (c *crew) work(do func(i int)) {
	for {
		select {
		case i, more := <-c.numbers:
			if !more {
				return
			}
			do(i)
		case <-c.done:
			return
		}
	}
}

// hand waits till one of them takes the number; false: the stop was cancelled, or quit closed, meanwhile.
func (c *crew) hand(i int, quit <-chan struct{}) bool {
	select {
	case c.numbers <- i:
		return true
	case <-c.done:
		return false
	case <-quit:
		return false
	}
}

// over tells whether the stop is cancelled.
func (c *crew) over() bool {
	select {
	case <-c.done:
		return true
	default:
		return false
	}
}

// end waits till all of them have done what they took.
func (c *crew) end() {
	close(c.numbers)
	c.join.Wait()
}
