package xxh

// taken is what a digest of either width holds of the bytes that it took.
type taken struct {
	total uint64
	// Only the bytes behind the last whole stripe are kept: total says how many they are, for both widths of a stripe divide 2^64. A digest of 32 bits leaves the upper half unused.
	rest [stripe64]byte
}

// stripes puts b behind what was taken and hands over every stripe that has become whole.
func (t *taken) stripes(b []byte, size int, mix func(stripe []byte)) {
	held := t.held(size)
	t.total += uint64(len(b))
	if held > 0 {
		n := copy(t.rest[held:size], b)
		if held+n < size {
			return
		}
		mix(t.rest[:size])
		b = b[n:]
	}
	copy(t.rest[:size], pieces(b, size, mix))
}

// held is how many bytes wait for the rest of their stripe.
func (t *taken) held(size int) int {
	return int(t.total % uint64(size))
}

// pieces hands over b's bytes size by size, as long as there are so many, and answers those that are left.
func pieces(b []byte, size int, take func(piece []byte)) []byte {
	for len(b) >= size {
		take(b[:size])
		b = b[size:]
	}
	return b
}

// low32 is the number of the first four bytes, lowest first.
func low32(b []byte) uint32 {
	return uint32(b[0]) | uint32(b[1])<<8 | uint32(b[2])<<16 | uint32(b[3])<<24
}

// low64 is the number of the first eight bytes, lowest first.
func low64(b []byte) uint64 {
	return uint64(low32(b)) | uint64(low32(b[4:]))<<32
}
