package bits

import (
	"slices"

	"satchel/api"
)

// Reader reads bits, of each byte the lowest first.
type Reader struct {
	b  []byte
	at int // the next bit's place
}

// NewReader reads from the first bit of b on.
func NewReader(b []byte) *Reader {
	return &Reader{b: b}
}

// Take takes so many bits as a number, the first one lowest.
func (r *Reader) Take(n int) (uint32, api.Errno) {
	if n < 0 || n > mostBits {
		return 0, api.ErrArg
	}
	if n > r.Left() {
		return 0, api.ErrBits
	}
	v := r.ahead(n)
	r.at += n
	return v, api.OK
}

// Align skips the bits up to the next byte's beginning.
func (r *Reader) Align() {
	r.at = aligned(r.at)
}

// Bytes takes so many whole bytes behind that; the bits stay skipped with an error, too.
func (r *Reader) Bytes(n int) ([]byte, api.Errno) {
	r.Align()
	if n < 0 {
		return nil, api.ErrArg
	}
	// The bits of n bytes may be more than a number holds; the bytes of all bits are not.
	if n > r.Left()/8 {
		return nil, api.ErrBits
	}
	from := r.at / 8
	r.at += 8 * n
	return slices.Clone(r.b[from : from+n]), api.OK
}

// Left is how many bits are left.
func (r *Reader) Left() int {
	return 8*len(r.b) - r.at
}

// ahead is the next n bits, at most mostBits, as a number, the first one lowest, with zeros for those behind the end; none is taken.
func (r *Reader) ahead(n int) uint32 {
	first := r.at / 8
	// Of the first byte up to seven bits are gone, so that mostBits may reach into a fifth.
	last := min(first+mostBits/8+1, len(r.b))
	var v uint64
	for i, x := range r.b[first:last] {
		v |= uint64(x) << (8 * i)
	}
	return uint32(v >> (r.at % 8) & (1<<n - 1))
}
