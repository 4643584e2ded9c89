package xxh

import "math/bits"

const (
	prime32a uint32 = 2654435761
	prime32b uint32 = 2246822519
	prime32c uint32 = 3266489917
	prime32d uint32 = 668265263
	prime32e uint32 = 374761393

	stripe32 = 16
)

// Digest32 takes bytes in pieces and tells their sum in 32 bits.
type Digest32 struct {
	taken
	seed  uint32
	lanes [4]uint32
}

// New32 makes a digest that took no bytes.
func New32(seed uint32) *Digest32 {
	return &Digest32{
		seed:  seed,
		lanes: [4]uint32{seed + prime32a + prime32b, seed + prime32b, seed, seed - prime32a},
	}
}

// Write takes b's bytes behind those that were taken before.
func (d *Digest32) Write(b []byte) {
	d.stripes(b, stripe32, func(stripe []byte) {
		for i, v := range d.lanes {
			d.lanes[i] = bits.RotateLeft32(v+low32(stripe[4*i:])*prime32b, 13) * prime32a
		}
	})
}

// Sum is the sum of all that was taken; the digest goes on as if it had not been asked.
func (d *Digest32) Sum() uint32 {
	h := d.joined() + uint32(d.total)
	left := pieces(d.rest[:d.held(stripe32)], 4, func(word []byte) {
		h = bits.RotateLeft32(h+low32(word)*prime32c, 17) * prime32d
	})
	pieces(left, 1, func(one []byte) {
		h = bits.RotateLeft32(h+uint32(one[0])*prime32e, 11) * prime32a
	})
	h = (h ^ h>>15) * prime32b
	h = (h ^ h>>13) * prime32c
	return h ^ h>>16
}

// joined is what the whole stripes come to, or the seed's own start where there was none.
func (d *Digest32) joined() uint32 {
	if d.total < stripe32 {
		return d.seed + prime32e
	}
	return bits.RotateLeft32(d.lanes[0], 1) + bits.RotateLeft32(d.lanes[1], 7) +
		bits.RotateLeft32(d.lanes[2], 12) + bits.RotateLeft32(d.lanes[3], 18)
}

// Len is how many bytes were taken.
func (d *Digest32) Len() uint64 {
	return d.total
}

// Reset forgets what was taken and keeps the seed.
func (d *Digest32) Reset() {
	*d = *New32(d.seed)
}

// Clone is another digest that took the same.
func (d *Digest32) Clone() *Digest32 {
	other := *d
	return &other
}
