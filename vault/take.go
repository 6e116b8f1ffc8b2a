package vault

import (
	"errors"
	"strconv"

	"spoor/api"
	"spoor/batch"
	"spoor/frame"
)

// What a file may lack, beside what frame and batch say of it.
var (
	errEnd   = errors.New("vault: no further frame")
	errFrame = errors.New("vault: another frame than must be there")
)

// lack is what a file has not as it must be, and where.
type lack struct {
	at  int
	why error
}

func (l *lack) Error() string { return l.why.Error() + " at " + strconv.Itoa(l.at) }

func (l *lack) Unwrap() error { return l.why }

// taken is the block of a number that a file's bytes are.
func taken(b []byte, through uint64) (api.Block, error) {
	pieces, end, why := frame.Scan(b)
	if why != api.OK {
		return api.Block{}, &lack{end, why}
	}
	t := &taker{bytes: b, pieces: pieces}
	l, err := t.spans(through)
	if err != nil {
		return api.Block{}, err
	}
	return api.Block{Through: through, Spans: l}, nil
}

// taker takes the frames of a file, which lie whole in its bytes, one behind the other.
type taker struct {
	bytes   []byte
	pieces  []api.Piece // those that are left
	at, end int         // from where up to where the frame lies that was taken last
}

// spans takes all frames of a block: its head, its chunks and its foot, and finds no further one.
func (t *taker) spans(through uint64) ([]api.Span, error) {
	count, many, err := t.pair(headKind, through)
	if err != nil {
		return nil, err
	}
	if count > api.MaxSpans {
		return nil, t.wrong(errFrame)
	}
	var l []api.Span
	for i := range many {
		if l, err = t.chunk(uint64(i), l); err != nil {
			return nil, err
		}
	}
	if err := t.foot(through, count, l); err != nil {
		return nil, err
	}
	if _, err := t.next(); !errors.Is(err, errEnd) {
		return nil, t.wrong(errFrame)
	}
	return l, nil
}

// chunk takes a chunk, whose spans go on behind those of the chunks ahead.
func (t *taker) chunk(seq uint64, l []api.Span) ([]api.Span, error) {
	payload, err := t.payload(chunkKind, seq)
	if err != nil {
		return nil, err
	}
	more, err := batch.Decode(payload)
	if err != nil {
		return nil, t.wrong(err)
	}
	if len(more) == 0 {
		return nil, t.wrong(errFrame)
	}
	for _, s := range more {
		if len(l) > 0 && !isAbove(s, l[len(l)-1]) {
			return nil, t.wrong(api.ErrVaultOrder)
		}
		l = append(l, s)
	}
	return l, nil
}

// foot takes the foot, which says once more what stands ahead of it.
func (t *taker) foot(through uint64, count uint32, l []api.Span) error {
	again, sum, err := t.pair(footKind, through)
	if err != nil {
		return err
	}
	if again != count || len(l) != int(count) || sum != frame.Sum(t.bytes[:t.at]) {
		return t.wrong(errFrame)
	}
	return nil
}

// pair takes a frame whose payload is two numbers.
func (t *taker) pair(kind int, seq uint64) (uint32, uint32, error) {
	b, err := t.payload(kind, seq)
	if err != nil {
		return 0, 0, err
	}
	if len(b) != 2*numberSize {
		return 0, 0, t.wrong(errFrame)
	}
	return readNumber(b[:numberSize]), readNumber(b[numberSize:]), nil
}

// payload takes a frame of a kind and a seq.
func (t *taker) payload(kind int, seq uint64) ([]byte, error) {
	p, err := t.next()
	if err != nil {
		return nil, err
	}
	if p.Kind != kind || p.Seq != seq {
		return nil, t.wrong(errFrame)
	}
	return t.bytes[p.At:t.end], nil
}

// next takes a frame, whichever it is.
func (t *taker) next() (api.Piece, error) {
	t.at = t.end
	if len(t.pieces) == 0 {
		return api.Piece{}, t.wrong(errEnd)
	}
	p := t.pieces[0]
	t.pieces = t.pieces[1:]
	t.end = p.At + p.Length
	return p, nil
}

// wrong is what the frame that was taken last lacks. Behind the last one of all that is the end of the bytes.
func (t *taker) wrong(why error) error { return &lack{t.at, why} }

func readNumber(b []byte) uint32 {
	v := uint32(0)
	for _, c := range b {
		v = v<<8 | uint32(c)
	}
	return v
}
