package field

import (
	"bytes"
	"slices"

	"satchel/api"
)

// Octal reads a number in octal digits.
func Octal(b []byte) (int64, api.Errno) {
	// What stands between the blanks ahead and the blanks and zeros behind is the digits, if b is an octal field.
	digits := bytes.TrimRight(bytes.TrimLeft(b, blank), blank+zero)
	if slices.ContainsFunc(digits, noDigit) {
		return 0, api.ErrDigit
	}
	var n int64
	for _, x := range digits {
		if n > api.MaxSize>>3 {
			return 0, api.ErrBig
		}
		n = n<<3 | int64(x-'0')
	}
	return n, api.OK
}

func noDigit(x byte) bool {
	return x < '0' || x > '7'
}

// PutOctal writes a number in octal digits, with a zero behind them.
func PutOctal(n int64, width int) ([]byte, api.Errno) {
	if !canHold(width) {
		return nil, api.ErrArg
	}
	if n < 0 {
		return nil, api.ErrWide
	}
	b := make([]byte, width)
	for i := width - 2; i >= 0; i-- {
		b[i] = '0' + byte(n&7)
		n >>= 3
	}
	if n != 0 {
		return nil, api.ErrWide
	}
	return b, api.OK
}
