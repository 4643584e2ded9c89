package field

import (
	"strings"

	"satchel/api"
)

// The sum's field of a record.
const (
	sumFrom = 148
	sumTo   = 156
)

// Sums are the two sums of a record, the sum's field taken for blanks: of its bytes as they are, and of its bytes with a sign.
func Sums(r [api.Record]byte) (int64, int64) {
	copy(r[sumFrom:sumTo], strings.Repeat(blank, sumTo-sumFrom))
	var plain, signed int64
	for _, x := range r {
		plain += int64(x)
		signed += int64(int8(x))
	}
	return plain, signed
}

// Check tells whether the sum's field says one of the two sums.
func Check(r [api.Record]byte) bool {
	plain, signed := Sums(r)
	said, why := Octal(r[sumFrom:sumTo])
	return why == api.OK && (said == plain || said == signed)
}

// PutSum is the record with its first sum in the sum's field.
func PutSum(r [api.Record]byte) [api.Record]byte {
	plain, _ := Sums(r)
	digits, _ := PutOctal(plain, sumTo-sumFrom-1) // no record's sum has more than six
	copy(r[sumFrom:], digits)
	copy(r[sumTo-1:], blank)
	return r
}

// Zero tells whether all bytes of a record are 0.
func Zero(r [api.Record]byte) bool {
	return r == [api.Record]byte{}
}
