package journal

import (
	"bytes"
	"iter"
	"sort"

	"spoor/api"
)

// Read tells a record.
func (j *Journal) Read(number uint64) ([]byte, api.Errno) {
	s, there := j.fileOf(number)
	if !there {
		return nil, api.ErrJournalNone
	}
	at, length := s.payload(number)
	return j.disk.Read(s.name(), at, length)
}

// Records tells all that there are from a number on.
func (j *Journal) Records(from uint64) iter.Seq2[uint64, []byte] {
	// they are read here and now: later the disk may be off, or the files dropped
	var found []api.Record
	for number, payload := range j.readable(max(from, j.files[0].first)) {
		found = append(found, api.Record{Number: number, Payload: payload})
	}
	return func(yield func(uint64, []byte) bool) {
		for _, r := range found {
			if !yield(r.Number, bytes.Clone(r.Payload)) {
				return
			}
		}
	}
}

// readable tells the records from a number on, each read when its turn comes, up to the first one that Read refuses.
func (j *Journal) readable(from uint64) iter.Seq2[uint64, []byte] {
	return func(yield func(uint64, []byte) bool) {
		for number := from; ; number++ {
			payload, e := j.Read(number)
			if e != api.OK || !yield(number, payload) {
				return
			}
		}
	}
}

// fileOf is the last file whose records may begin at a number: those ahead that begin there, too, have none.
func (j *Journal) fileOf(number uint64) (*segment, bool) {
	behind := sort.Search(len(j.files), func(i int) bool { return j.files[i].first > number })
	if behind == 0 {
		return nil, false
	}
	s := &j.files[behind-1]
	return s, number < s.next()
}
