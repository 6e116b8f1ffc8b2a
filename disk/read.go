package disk

import (
	"bytes"
	"maps"
	"slices"

	"spoor/api"
)

// Read tells n bytes of a file from a place on.
func (d *Disk) Read(name string, at int, n int) ([]byte, api.Errno) {
	f, e := d.find(name)
	if e != api.OK {
		return nil, e
	}
	if at < 0 || n < 0 || n > len(f.bytes)-at {
		return nil, api.ErrDiskRange
	}
	return bytes.Clone(f.bytes[at : at+n]), api.OK
}

// Size tells how many bytes a file has.
func (d *Disk) Size(name string) (int, api.Errno) {
	f, e := d.find(name)
	if e != api.OK {
		return 0, e
	}
	return len(f.bytes), api.OK
}

// Names tells all names, rising.
func (d *Disk) Names() ([]string, api.Errno) {
	if d.off {
		return nil, api.ErrDiskOff
	}
	return slices.Sorted(maps.Keys(d.names)), api.OK
}

// Flip turns a byte of a file: what befalls it.
func (d *Disk) Flip(name string, at int, by byte) api.Errno {
	f, e := d.find(name)
	if e != api.OK {
		return e
	}
	if at < 0 || at >= len(f.bytes) {
		return api.ErrDiskRange
	}
	f.flip(at, by)
	return api.OK
}
