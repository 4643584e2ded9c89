package lz

import "satchel/api"

const (
	farthest = api.Window - 1 // how far back a match may begin
	shortest = 4              // how long a match is at least
	nibble   = 15             // the greatest number of four bits; more of it follows in bytes
	full     = 255            // a byte of a number behind which one more follows
)

// canBe tells whether l is the sequences of some block, however long.
func canBe(l []api.Seq) bool {
	if len(l) == 0 {
		return false
	}
	for _, s := range l[:len(l)-1] {
		if s.Back < 1 || s.Back > farthest || s.Length < shortest {
			return false
		}
	}
	last := l[len(l)-1]
	return last.Back == 0 && last.Length == 0
}

// fits tells whether l comes to no more bytes than a block may.
func fits(l []api.Seq) bool {
	left := api.MaxBlock
	for _, s := range l {
		// One by one and by taking off, for their sum may be greater than an int.
		if len(s.Plain) > left || s.Length > left-len(s.Plain) {
			return false
		}
		left -= len(s.Plain) + s.Length
	}
	return true
}

// put puts the bytes of a sequence that can be, or of a last one, behind b.
func put(b []byte, s api.Seq) []byte {
	beyond := max(s.Length-shortest, 0)
	b = append(b, byte(min(len(s.Plain), nibble)<<4|min(beyond, nibble)))
	b = putNumber(b, len(s.Plain))
	b = append(b, s.Plain...)
	if s.Back == 0 {
		return b
	}
	b = append(b, byte(s.Back), byte(s.Back>>8))
	return putNumber(b, beyond)
}

// putNumber puts behind b what of n has no room in four bits.
func putNumber(b []byte, n int) []byte {
	if n < nibble {
		return b
	}
	n -= nibble
	for ; n >= full; n -= full {
		b = append(b, full)
	}
	return append(b, byte(n))
}
