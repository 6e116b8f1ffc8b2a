package engine

import (
	"spoor/api"
	"spoor/batch"
	"spoor/disk"
	"spoor/journal"
	"spoor/vault"
	"spoor/watch"
)

// Open finds on a disk what there is.
func Open(d *disk.Disk, c api.Config) (*Engine, api.Recovery, error) {
	if d == nil {
		return nil, api.Recovery{}, fault(0, api.ErrArg)
	}
	if !mayBe(c) {
		return nil, api.Recovery{}, fault(0, api.ErrEngineConfig)
	}
	e := &Engine{memory: newMemory(c.Fan), disk: d, hub: watch.New(), workers: c.Workers}
	r, err := e.restore(c.Segment)
	if err != nil {
		return nil, api.Recovery{}, err
	}
	return e, r, nil
}

func mayBe(c api.Config) bool {
	return within(c.Segment, api.MinSegment, api.MaxSegment) && within(c.Fan, 2, api.MaxFan) && within(c.Workers, 1, api.MaxWorkers)
}

func within(n, least, most int) bool { return least <= n && n <= most }

// restore puts into S what the block has, and behind it what the journal has that the block has not.
func (e *Engine) restore(segment int) (api.Recovery, error) {
	block, err := vault.Load(e.disk)
	if err != nil {
		return api.Recovery{}, err
	}
	if _, n := e.put(block.Spans); n != api.OK {
		return api.Recovery{}, fault(0, n)
	}
	j, r, err := journal.Open(e.disk, segment)
	if err != nil {
		return api.Recovery{}, err
	}
	if r.First > block.Through || r.Next < block.Through {
		return api.Recovery{}, fault(0, api.ErrEngineGap)
	}
	e.journal = j
	return r, e.replay(block.Through)
}

// replay puts the spans of the journal's records into S, from a number on.
func (e *Engine) replay(from uint64) error {
	for number, b := range e.journal.Records(from) {
		l, err := batch.Decode(b)
		if err != nil {
			return fault(int(number), api.ErrJournalSpoilt)
		}
		if _, n := e.put(l); n != api.OK {
			return fault(int(number), api.ErrJournalSpoilt)
		}
	}
	return nil
}

func fault(at int, n api.Errno) error { return &api.Fault{At: at, Err: n} }
