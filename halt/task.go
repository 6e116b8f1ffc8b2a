package halt

import "spoor/api"

// task is a function that After was handed.
type task struct {
	call func(api.Errno) // nil, once it was called or taken back
}

func (t *task) over() bool { return t.call == nil }

// wait puts f behind the stop's functions; if the stop is cancelled already, it answers the reason instead.
func (s *Stop) wait(f func(api.Errno)) (*task, api.Errno) {
	s.lock.Lock()
	defer s.lock.Unlock()
	if s.over() {
		return nil, s.why
	}
	t := &task{call: f}
	s.after.add(t)
	return t, api.OK
}

func (s *Stop) takeBack(t *task) bool {
	s.lock.Lock()
	defer s.lock.Unlock()
	if t.over() {
		return false
	}
	t.call = nil
	if !s.over() {
		s.after.lose()
	}
	return true
}

// callAll calls those that still wait when their turn comes. No lock is held meanwhile: they may use any stop.
func (s *Stop) callAll(tasks []*task, why api.Errno) {
	for _, t := range tasks {
		if call := s.take(t); call != nil {
			call(why)
		}
	}
}

// take answers what the task calls, and has it count as called from then on; nil, if it waits no more.
func (s *Stop) take(t *task) func(api.Errno) {
	s.lock.Lock()
	defer s.lock.Unlock()
	call := t.call
	t.call = nil
	return call
}
