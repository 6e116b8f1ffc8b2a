package disk

import (
	"bytes"
	"math"
)

// fileStep is a step of a file: appended or cut.
type fileStep interface {
	units() int
}

type appended struct {
	bytes []byte
}

type cut struct {
	left int // how many bytes it leaves
}

func (a appended) units() int { return len(a.bytes) }
func (cut) units() int        { return 1 }

// doFile does the first units of a step on bytes.
func doFile(on []byte, s fileStep, units int) []byte {
	if units <= 0 {
		return on
	}
	switch s := s.(type) {
	case appended:
		on = append(on, s.bytes[:min(units, len(s.bytes))]...)
	case cut:
		on = on[:s.left]
	}
	return on
}

// copyStep is a step that shares nothing with another one: Flip may turn the bytes of each.
func copyStep(s fileStep) fileStep {
	switch s := s.(type) {
	case appended:
		return appended{bytes: bytes.Clone(s.bytes)}
	default:
		return s
	}
}

// file has its bytes twice, so that it need not do its steps anew whenever it is asked for them.
type file struct {
	bytes   []byte
	lasting []byte
	steps   []fileStep // that lead from the lasting bytes to the bytes
}

// append writes bytes behind those that there are; of none there is no step.
func (f *file) append(b []byte) {
	if len(b) > 0 {
		f.step(appended{bytes: bytes.Clone(b)})
	}
}

// cut leaves the first n bytes.
func (f *file) cut(n int) {
	f.step(cut{left: n})
}

// step does a step, which does not last yet.
func (f *file) step(s fileStep) {
	f.bytes = doFile(f.bytes, s, s.units())
	f.steps = append(f.steps, s)
}

// sync makes all steps last.
func (f *file) sync() {
	f.settle(math.MaxInt)
}

// restart makes the first units of the steps last, and loses the others.
func (f *file) restart(units int) {
	if len(f.steps) == 0 {
		return
	}
	f.settle(units)
	f.bytes = bytes.Clone(f.lasting)
}

// settle does the first units of the steps on the lasting bytes.
func (f *file) settle(units int) {
	for _, s := range f.steps {
		f.lasting = doFile(f.lasting, s, units)
		units -= min(units, s.units())
	}
	f.steps = nil
}

// pending is how many units do not last yet.
func (f *file) pending() int {
	n := 0
	for _, s := range f.steps {
		n += s.units()
	}
	return n
}

// flip turns the byte at a place, and the one that it came from.
func (f *file) flip(at int, by byte) {
	list, place := f.source(at)
	list[place] ^= by
	f.bytes[at] ^= by
}

// source tells where the byte at a place came from. Of all that ever stood there it is the latest one: what is cut off is written anew ahead of being seen.
func (f *file) source(at int) ([]byte, int) {
	list, place, size := f.lasting, at, len(f.lasting)
	for _, s := range f.steps {
		switch s := s.(type) {
		case appended:
			if at >= size && at-size < len(s.bytes) {
				list, place = s.bytes, at-size
			}
			size += len(s.bytes)
		case cut:
			size = s.left
		}
	}
	return list, place
}

// copy is a file that is as this one is, and shares nothing with it.
func (f *file) copy() *file {
	c := &file{bytes: bytes.Clone(f.bytes), lasting: bytes.Clone(f.lasting)}
	for _, s := range f.steps {
		c.steps = append(c.steps, copyStep(s))
	}
	return c
}
