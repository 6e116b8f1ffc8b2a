package vault

import (
	"cmp"

	"spoor/api"
	"spoor/batch"
	"spoor/frame"
	"spoor/span"
)

const (
	headKind  = 3
	chunkKind = 4
	footKind  = 5

	numberSize = 4 // bytes of each of the two numbers in a head and in a foot
)

// check tells why spans are no block's.
func check(l []api.Span) api.Errno {
	if len(l) > api.MaxSpans {
		return api.ErrStoreFull
	}
	for i, s := range l {
		if e := span.Check(s); e != api.OK {
			return e
		}
		if i > 0 && !isAbove(s, l[i-1]) {
			return api.ErrVaultOrder
		}
	}
	return api.OK
}

// isAbove holds two spans' names against each other, and nothing else of them: a block has one span of each.
func isAbove(s, ahead api.Span) bool {
	return cmp.Or(
		cmp.Compare(s.Trace.Hi, ahead.Trace.Hi),
		cmp.Compare(s.Trace.Lo, ahead.Trace.Lo),
		cmp.Compare(s.ID, ahead.ID),
	) > 0
}

// frames are the bytes of a block that may be, frame by frame.
func frames(b api.Block) [][]byte {
	count := uint32(len(b.Spans))
	batches := chunks(b.Spans)
	all := [][]byte{framed(headKind, b.Through, pair(count, uint32(len(batches))))}
	for i, payload := range batches {
		all = append(all, framed(chunkKind, uint64(i), payload))
	}
	sum := frame.Sum(nil)
	for _, f := range all {
		sum = frame.More(sum, f)
	}
	return append(all, framed(footKind, b.Through, pair(count, sum)))
}

func framed(kind int, seq uint64, payload []byte) []byte {
	b, _ := frame.Make(kind, seq, payload) // no kind and no length that Make refuses
	return b
}

// pair is two numbers, each with its highest byte first.
func pair(a, b uint32) []byte {
	out := make([]byte, 0, 2*numberSize)
	for _, v := range [...]uint32{a, b} {
		for i := range numberSize {
			out = append(out, byte(v>>(8*(numberSize-1-i))))
		}
	}
	return out
}

// chunks are the batches that spans stand in, each of as many as go into it.
func chunks(l []api.Span) [][]byte {
	var all [][]byte
	n := api.MaxBatchSpans
	for len(l) > 0 {
		var b []byte
		b, n = longest(l, n)
		all = append(all, b)
		l = l[n:]
	}
	return all
}

// longest is the batch of the longest beginning of spans that goes into one, and how many it has. The batch of a longer beginning is longer, so one that goes in and one that does not close in on it. They do so from a guess on, by wider and wider steps: spans that stand near one another are mostly alike, and to try hundreds of great ones for each chunk of a few would take long.
func longest(l []api.Span, guess int) ([]byte, int) {
	var whole []byte
	goes, over := 0, min(len(l), api.MaxBatchSpans)+1
	n := min(guess, over-1)
	for step := 1; over-goes > 1; step *= 2 {
		b, err := batch.Encode(l[:n])
		if err == nil {
			whole, goes = b, n
			n = min(goes+step, (goes+over)/2)
		} else {
			over = n
			n = max(over-step, (goes+over)/2)
		}
	}
	return whole, goes
}
