package field

import "satchel/api"

// The first byte's bits below the highest one are a number from lowest to highest, as its second highest bit is the sign's.
const (
	lowest  = -1 << 6
	highest = 1<<6 - 1
)

// Binary reads a number in base 256.
func Binary(b []byte) (int64, api.Errno) {
	if len(b) < 2 || b[0]&isBinary == 0 {
		return 0, api.ErrDigit
	}
	n := int64(b[0] &^ isBinary) // from 0 to 127
	if n > highest {
		n += 2 * lowest
	}
	for _, x := range b[1:] {
		if n<<8>>8 != n { // it would lose bits, so that it is too great whatever follows
			return 0, api.ErrBig
		}
		n = n<<8 | int64(x)
	}
	return n, api.OK
}

// PutBinary writes a number in base 256.
func PutBinary(n int64, width int) ([]byte, api.Errno) {
	if !canHold(width) {
		return nil, api.ErrArg
	}
	b := make([]byte, width)
	for i := width - 1; i > 0; i-- {
		b[i] = byte(n)
		n >>= 8
	}
	if n < lowest || n > highest {
		return nil, api.ErrWide
	}
	b[0] = byte(n) | isBinary
	return b, api.OK
}
