// Package low has numbers as bytes, lowest first: frames, members and volumes are full of them.
package low

// Number is the number of b's bytes, at most eight.
func Number(b []byte) uint64 {
	var n uint64
	for i, x := range b {
		n |= uint64(x) << (8 * i)
	}
	return n
}

// Put puts a number of so many bytes behind b.
func Put(b []byte, n uint64, size int) []byte {
	for range size {
		b = append(b, byte(n))
		n >>= 8
	}
	return b
}
