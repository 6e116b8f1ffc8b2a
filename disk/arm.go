package disk

import (
	"math"

	"spoor/api"
)

// arms is what a disk is armed with.
type arms struct {
	changes int // 0: it is not armed
	how     api.How
	units   int
}

// Arm says what becomes of the n-th change from now on.
func (d *Disk) Arm(n int, how api.How, units int) api.Errno {
	if d.off {
		return api.ErrDiskOff
	}
	if n < 0 || units < 0 || how != api.Stop && how != api.Fail {
		return api.ErrArg
	}
	if n == 0 {
		d.arms = arms{}
	} else {
		d.arms = arms{changes: n, how: how, units: units}
	}
	return api.OK
}

// Off tells whether the power is.
func (d *Disk) Off() bool { return d.off }

// fire counts a change that nothing refuses, and tells how many units of it are to be done, and what it answers.
func (d *Disk) fire() (int, api.Errno) {
	if d.arms.changes != 1 {
		d.arms.changes = max(d.arms.changes-1, 0)
		return math.MaxInt, api.OK
	}
	a := d.arms
	d.arms = arms{}
	if a.how == api.Fail {
		return a.units, api.ErrDiskFail
	}
	d.off = true
	return a.units, api.ErrDiskOff
}
