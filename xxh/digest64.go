package xxh

import "math/bits"

const (
	prime64a uint64 = 11400714785074694791
	prime64b uint64 = 14029467366897019727
	prime64c uint64 = 1609587929392839161
	prime64d uint64 = 9650029242287828579
	prime64e uint64 = 2870177450012600261

	stripe64 = 32
)

// Digest64 takes bytes in pieces and tells their sum in 64 bits.
type Digest64 struct {
	taken
	seed  uint64
	lanes [4]uint64
}

// New64 makes a digest that took no bytes.
func New64(seed uint64) *Digest64 {
	return &Digest64{
		seed:  seed,
		lanes: [4]uint64{seed + prime64a + prime64b, seed + prime64b, seed, seed - prime64a},
	}
}

// Write takes b's bytes behind those that were taken before.
func (d *Digest64) Write(b []byte) {
	d.stripes(b, stripe64, func(stripe []byte) {
		for i, v := range d.lanes {
			d.lanes[i] = round64(v, low64(stripe[8*i:]))
		}
	})
}

// Sum is the sum of all that was taken; the digest goes on as if it had not been asked.
func (d *Digest64) Sum() uint64 {
	h := d.joined() + d.total
	left := pieces(d.rest[:d.held(stripe64)], 8, func(word []byte) {
		h = bits.RotateLeft64(h^round64(0, low64(word)), 27)*prime64a + prime64d
	})
	// Fewer than eight bytes are left, so this takes one word at most.
	left = pieces(left, 4, func(half []byte) {
		h = bits.RotateLeft64(h^uint64(low32(half))*prime64a, 23)*prime64b + prime64c
	})
	pieces(left, 1, func(one []byte) {
		h = bits.RotateLeft64(h^uint64(one[0])*prime64e, 11) * prime64a
	})
	h = (h ^ h>>33) * prime64b
	h = (h ^ h>>29) * prime64c
	return h ^ h>>32
}

// joined is what the whole stripes come to, or the seed's own start where there was none.
func (d *Digest64) joined() uint64 {
	if d.total < stripe64 {
		return d.seed + prime64e
	}
	h := bits.RotateLeft64(d.lanes[0], 1) + bits.RotateLeft64(d.lanes[1], 7) +
		bits.RotateLeft64(d.lanes[2], 12) + bits.RotateLeft64(d.lanes[3], 18)
	for _, v := range d.lanes {
		h = (h^round64(0, v))*prime64a + prime64d
	}
	return h
}

// Len is how many bytes were taken.
func (d *Digest64) Len() uint64 {
	return d.total
}

// Reset forgets what was taken and keeps the seed.
func (d *Digest64) Reset() {
	*d = *New64(d.seed)
}

// Clone is another digest that took the same.
func (d *Digest64) Clone() *Digest64 {
	other := *d
	return &other
}

// round64 mixes one number into a lane.
func round64(v, w uint64) uint64 {
	return bits.RotateLeft64(v+w*prime64b, 31) * prime64a
}
