package vault

import (
	"strconv"
	"strings"

	"spoor/api"
	"spoor/disk"
)

const (
	tempName   = "blk.tmp"
	namePrefix = "blk-"
	nameDigits = 20
)

// numbers tells those of the blocks that there are: the names rise, and so do they, since all have as many digits.
func numbers(d *disk.Disk) ([]uint64, api.Errno) {
	names, e := d.Names()
	if e != api.OK {
		return nil, e
	}
	var l []uint64
	for _, name := range names {
		if n, is := fileNumber(name); is {
			l = append(l, n)
		}
	}
	return l, api.OK
}

func fileName(through uint64) string {
	digits := strconv.FormatUint(through, 10)
	return namePrefix + strings.Repeat("0", nameDigits-len(digits)) + digits
}

// fileNumber: names of any other form are no business of a vault, nor are those whose digits have no room in a number.
func fileNumber(name string) (uint64, bool) {
	digits, found := strings.CutPrefix(name, namePrefix)
	if !found || len(digits) != nameDigits {
		return 0, false
	}
	n, err := strconv.ParseUint(digits, 10, 64)
	return n, err == nil
}
