package journal

import (
	"bytes"

	"spoor/api"
	"spoor/disk"
	"spoor/frame"
)

// Open finds what there is, and cuts off what is torn.
func Open(d *disk.Disk, size int) (*Journal, api.Recovery, error) {
	if d == nil || size < api.MinSegment || size > api.MaxSegment {
		return nil, api.Recovery{}, &api.FileFault{Err: api.ErrArg}
	}
	j := &Journal{disk: d, size: size}
	torn, f := j.find()
	if f != nil {
		return nil, api.Recovery{}, f
	}
	j.flushed = j.next
	r := api.Recovery{Segments: len(j.files), First: j.files[0].first, Next: j.next, Torn: torn}
	return j, r, nil
}

// find looks at all files ahead of the first change, so that what is spoilt stays as it is; then it mends the last one. It tells how many bytes were torn.
func (j *Journal) find() (int, *api.FileFault) {
	numbers, f := j.numbers()
	if f != nil {
		return 0, f
	}
	torn, f := j.look(numbers)
	if f != nil {
		return 0, f
	}
	if len(j.files) < len(numbers) {
		f = j.takeAway(fileName(numbers[len(j.files)]))
	} else if torn > 0 {
		f = j.cutOff()
	}
	if f != nil {
		return 0, f
	}
	if len(j.files) == 0 {
		return torn, j.begin(0, 0)
	}
	return torn, j.settle()
}

// numbers tells those of the journal's files: the names rise, and so do they, since all have as many digits.
func (j *Journal) numbers() ([]uint64, *api.FileFault) {
	names, e := j.disk.Names()
	if e != api.OK {
		return nil, &api.FileFault{Err: e}
	}
	var numbers []uint64
	for _, name := range names {
		if number, is := fileNumber(name); is {
			numbers = append(numbers, number)
		}
	}
	return numbers, nil
}

// look takes file by file what it has; it tells how many bytes of the last one are no whole frame. A last file without a whole frame is not among the journal's.
func (j *Journal) look(numbers []uint64) (int, *api.FileFault) {
	torn := 0
	for i, number := range numbers {
		if i > 0 && number != numbers[i-1]+1 {
			return 0, spoilt(number, 0)
		}
		var f *api.FileFault
		torn, f = j.lookAt(number, i == len(numbers)-1)
		if f != nil {
			return 0, f
		}
	}
	return torn, nil
}

func (j *Journal) lookAt(number uint64, isLast bool) (int, *api.FileFault) {
	b, f := j.load(fileName(number))
	if f != nil {
		return 0, f
	}
	s := segment{number: number}
	pieces, end, why := frame.Scan(b)
	if !isLast && (why != api.OK || len(pieces) == 0) {
		return 0, spoilt(number, end)
	}
	if place, right := s.along(b, pieces, j.mayBegin); !right {
		return 0, spoilt(number, place)
	}
	if why != api.OK && why != api.ErrFrameTorn {
		return 0, spoilt(number, end)
	}
	if len(pieces) > 0 {
		j.files = append(j.files, s)
		j.next = s.next()
	} else if !j.isTornHead(number, b) {
		return 0, spoilt(number, 0)
	}
	return len(b) - end, nil
}

// mayBegin: the files ahead say with which record a file begins; of the first one nobody knows.
func (j *Journal) mayBegin(first uint64) bool {
	if len(j.files) == 0 {
		return first <= maxFirst
	}
	return first == j.next
}

// isTornHead: a power that went while a file was begun leaves a beginning of its head; and only the file 0 is begun without one ahead.
func (j *Journal) isTornHead(number uint64, b []byte) bool {
	if len(j.files) == 0 && number != 0 {
		return false
	}
	s := segment{number: number, first: j.next}
	return bytes.HasPrefix(s.head(), b)
}

func (j *Journal) load(name string) ([]byte, *api.FileFault) {
	n, e := j.disk.Size(name)
	if e != api.OK {
		return nil, &api.FileFault{Name: name, Err: e}
	}
	b, e := j.disk.Read(name, 0, n)
	if e != api.OK {
		return nil, &api.FileFault{Name: name, Err: e}
	}
	return b, nil
}

func (j *Journal) takeAway(name string) *api.FileFault {
	if e := j.disk.Remove(name); e != api.OK {
		return &api.FileFault{Name: name, Err: e}
	}
	if e := j.disk.SyncNames(); e != api.OK {
		return &api.FileFault{Err: e}
	}
	return nil
}

func (j *Journal) cutOff() *api.FileFault {
	name := j.last().name()
	if e := j.disk.Cut(name, j.last().size()); e != api.OK {
		return &api.FileFault{Name: name, Err: e}
	}
	return nil
}

// settle makes all that was found last.
func (j *Journal) settle() *api.FileFault {
	name := j.last().name()
	if e := j.disk.Sync(name); e != api.OK {
		return &api.FileFault{Name: name, Err: e}
	}
	if e := j.disk.SyncNames(); e != api.OK {
		return &api.FileFault{Err: e}
	}
	return nil
}

func spoilt(number uint64, at int) *api.FileFault {
	return &api.FileFault{Name: fileName(number), At: at, Err: api.ErrJournalSpoilt}
}
