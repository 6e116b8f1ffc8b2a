package disk

import (
	"maps"
	"slices"

	"spoor/api"
)

// Pending tells how many steps of the names do not last yet, and of each file, by its number, how many units.
func (d *Disk) Pending() api.Keep {
	k := api.Keep{Names: len(d.steps), Data: make([]int, d.created)}
	for number, f := range d.files {
		k.Data[number] = f.pending()
	}
	return k
}

// Restart lets the power go, if it is on, and come back: what does not last is lost, but for what is kept.
func (d *Disk) Restart(k api.Keep) {
	kept := min(max(k.Names, 0), len(d.steps))
	for _, s := range d.steps[:kept] {
		doName(d.lasting, s)
	}
	d.names, d.steps = maps.Clone(d.lasting), nil
	d.restartFiles(k.Data)
	d.arms, d.off = arms{}, false
}

// restartFiles leaves the files that have names, each with the units that are kept of it.
func (d *Disk) restartFiles(kept []int) {
	files := make(map[int]*file, len(d.names))
	for _, number := range d.names {
		units := 0
		if number < len(kept) {
			units = max(kept[number], 0)
		}
		files[number] = d.files[number]
		files[number].restart(units)
	}
	d.files = files
}

// Copy is another disk, which is as this one is.
func (d *Disk) Copy() *Disk {
	c := *d
	c.files = make(map[int]*file, len(d.files))
	for number, f := range d.files {
		c.files[number] = f.copy()
	}
	c.names, c.lasting = maps.Clone(d.names), maps.Clone(d.lasting)
	c.steps = slices.Clone(d.steps)
	return &c
}
