package lang

import (
	"math"
	"strconv"
)

// nanosOf is how many nanoseconds a unit has; 0, if it is none.
func nanosOf(unit string) int64 {
	switch unit {
	case "ns":
		return 1
	case "us":
		return 1000
	case "ms":
		return 1000000
	case "s":
		return 1000000000
	case "m":
		return 60000000000
	case "h":
		return 3600000000000
	}
	return 0
}

// cutNumber cuts a number token into what counts, and the letters behind it.
func cutNumber(s string) (count string, unit string) {
	end := run(s, func(r rune) bool { return !isLetter(r) })
	return s[:end], s[end:]
}

// readNumber is what a number token stands for, and whether it is a duration; not ok, if that is no int64.
func readNumber(s string) (n int64, duration bool, ok bool) {
	count, unit := cutNumber(s)
	n, err := strconv.ParseInt(count, 10, 64)
	if err != nil {
		return 0, false, false
	}
	if unit == "" {
		return n, false, true
	}
	nanos := nanosOf(unit)
	if n > math.MaxInt64/nanos || n < math.MinInt64/nanos {
		return 0, false, false
	}
	return n * nanos, true, true
}

// durationOf writes a number in the greatest unit of which it is a multiple.
func durationOf(n int64) string {
	for _, unit := range [...]string{"h", "m", "s", "ms", "us"} {
		if nanos := nanosOf(unit); n%nanos == 0 {
			return digitsOf(n/nanos) + unit
		}
	}
	return digitsOf(n) + "ns"
}

func digitsOf(n int64) string { return strconv.FormatInt(n, 10) }
