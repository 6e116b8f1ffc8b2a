package console

import (
	"errors"
	"strconv"

	"spoor/api"
	"spoor/frame"
)

// Which words there are for numbers, bytes and errors.

func truth(is bool) string {
	if is {
		return "1"
	}
	return "0"
}

// pair is two numbers that together name a trace, or make one of 128 bits.
func pair(hi, lo uint64) string {
	return strconv.FormatUint(hi, 10) + "." + strconv.FormatUint(lo, 10)
}

const hexDigits = "0123456789abcdef"

func toHex(b []byte) string {
	text := make([]byte, 0, 2*len(b))
	for _, v := range b {
		text = append(text, hexDigits[v>>4], hexDigits[v&15])
	}
	return string(text)
}

// fromHex is the bytes that digits tell, two each; false, if they are no such digits.
func fromHex(digits string) ([]byte, bool) {
	if len(digits)%2 != 0 {
		return nil, false
	}
	b := make([]byte, 0, len(digits)/2)
	for i := 0; i < len(digits); i += 2 {
		high, is := hexDigit(digits[i])
		low, too := hexDigit(digits[i+1])
		if !is || !too {
			return nil, false
		}
		b = append(b, high<<4|low)
	}
	return b, true
}

func hexDigit(c byte) (byte, bool) {
	switch {
	case isDigit(c):
		return c - '0', true
	case 'a' <= c && c <= 'f':
		return c - 'a' + 10, true
	}
	return 0, false
}

// sumOf is the sum of bytes, as eight digits.
func sumOf(b []byte) string {
	sum := frame.Sum(b)
	return toHex([]byte{byte(sum >> 24), byte(sum >> 16), byte(sum >> 8), byte(sum)})
}

func placed(why api.Errno, place int) string {
	return strconv.Itoa(int(why)) + " at " + strconv.Itoa(place)
}

func faultAt(why api.Errno, place int) string { return "fault " + placed(why, place) }

// faultOf is an error as a line tells it: one without a place is given up.
func faultOf(err error) string {
	f, is := placeOf(err)
	if !is {
		giveUp(numberOf(err))
	}
	return faultAt(f.Err, f.At)
}

// openFaultOf is an error of Open's, which may be in a file.
func openFaultOf(err error) string {
	var f *api.FileFault
	if errors.As(err, &f) {
		return "file " + f.Name + " error " + placed(f.Err, f.At)
	}
	return faultOf(err)
}

// refusalOf is why a batch was not taken.
func refusalOf(err error) string {
	if f, is := placeOf(err); is {
		return "refused " + placed(f.Err, f.At)
	}
	return "refused " + strconv.Itoa(int(numberOf(err)))
}

// placeOf is the fault that an error wraps, if there is one.
func placeOf(err error) (*api.Fault, bool) {
	var f *api.Fault
	is := errors.As(err, &f)
	return f, is
}

// numberOf is the number that an error wraps.
func numberOf(err error) api.Errno {
	var why api.Errno
	errors.As(err, &why)
	return why
}
