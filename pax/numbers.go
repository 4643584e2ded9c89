package pax

import (
	"strconv"
	"strings"

	"satchel/api"
)

const (
	nanoDigits = 9
	second     = 1_000_000_000 // in nanoseconds
)

// Number reads a value that is a number.
func Number(s string) (int64, api.Errno) {
	if s == "" || !digits(s) {
		return 0, api.ErrDigit
	}
	n, err := strconv.ParseInt(s, 10, 64)
	if err != nil {
		return 0, api.ErrBig // Of digits alone nothing else can be wrong.
	}
	return n, api.OK
}

// digits tells whether there is nothing but decimal digits.
func digits(s string) bool {
	return strings.TrimLeft(s, "0123456789") == ""
}

// PutNumber makes a value of a number.
func PutNumber(n int64) (string, api.Errno) {
	if n < 0 {
		return "", api.ErrArg
	}
	return strconv.FormatInt(n, 10), api.OK
}

// Time reads a value that is a time: seconds, and nanoseconds to be added.
func Time(s string) (int64, int32, api.Errno) {
	unsigned, minus := strings.CutPrefix(s, "-")
	whole, rest, _ := strings.Cut(unsigned, ".")
	if !digits(rest) {
		return 0, 0, api.ErrDigit
	}
	seconds, why := Number(whole)
	if why != api.OK {
		return 0, 0, why
	}
	nano := nanoOf(rest)
	if !minus {
		return seconds, nano, api.OK
	}
	if nano == 0 {
		return -seconds, 0, api.OK
	}
	return -seconds - 1, second - nano, api.OK
}

// nanoOf is how many nanoseconds the digits behind a dot say; those behind the ninth say nothing.
func nanoOf(rest string) int32 {
	n := int32(0)
	for i := range nanoDigits {
		n *= 10
		if i < len(rest) {
			n += int32(rest[i] - '0')
		}
	}
	return n
}

// PutTime makes a value of a time.
func PutTime(seconds int64, nano int32) (string, api.Errno) {
	if nano < 0 || nano >= second {
		return "", api.ErrArg
	}
	sign, whole := "", uint64(seconds)
	if seconds < 0 {
		sign, whole = "-", -whole // 2^63 is no int64
		if nano > 0 {
			whole, nano = whole-1, second-nano
		}
	}
	return sign + strconv.FormatUint(whole, 10) + behindDot(nano), api.OK
}

// behindDot is what stands behind the whole part: nothing, or a dot and digits.
func behindDot(nano int32) string {
	if nano == 0 {
		return ""
	}
	// The second ahead of the nanoseconds keeps their zeros, and gives way to the dot.
	s := strconv.FormatInt(second+int64(nano), 10)
	return "." + strings.TrimRight(s[1:], "0")
}
