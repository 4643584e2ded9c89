package xxh_test

import (
	"math/rand"

	"satchel/xxh"
)

// digest is a Digest32 or a Digest64, so that one test holds both to the same promises.
type digest struct {
	write  func(b []byte)
	sum    func() uint64
	length func() uint64
	reset  func()
	clone  func() digest
}

// width is one of the two families of calls, with a model of its sum.
type width struct {
	name   string
	stripe int
	sum    func(seed uint64, b []byte) uint64
	model  func(seed uint64, b []byte) uint64
	fresh  func(seed uint64) digest
	seeds  []uint64
}

func widths() []width {
	return []width{
		{
			name: "32", stripe: 16,
			sum:   func(seed uint64, b []byte) uint64 { return uint64(xxh.Sum32(uint32(seed), b)) },
			model: func(seed uint64, b []byte) uint64 { return uint64(model32(uint32(seed), b)) },
			fresh: func(seed uint64) digest { return of32(xxh.New32(uint32(seed))) },
			seeds: []uint64{0, 1, 7, 2654435761, 1<<31 - 1, 1 << 31, 1<<32 - 1},
		},
		{
			name: "64", stripe: 32,
			sum:   xxh.Sum64,
			model: model64,
			fresh: func(seed uint64) digest { return of64(xxh.New64(seed)) },
			seeds: []uint64{0, 1, 7, 2654435761, 1<<32 - 1, 1 << 32, 1<<63 - 1, 1 << 63, 1<<64 - 1},
		},
	}
}

func of32(d *xxh.Digest32) digest {
	return digest{
		write:  d.Write,
		sum:    func() uint64 { return uint64(d.Sum()) },
		length: d.Len,
		reset:  d.Reset,
		clone:  func() digest { return of32(d.Clone()) },
	}
}

func of64(d *xxh.Digest64) digest {
	return digest{
		write:  d.Write,
		sum:    d.Sum,
		length: d.Len,
		reset:  d.Reset,
		clone:  func() digest { return of64(d.Clone()) },
	}
}

// text is n bytes of all values, the same ones each time.
func text(n int) []byte {
	b := make([]byte, n)
	rand.New(rand.NewSource(int64(n))).Read(b)
	return b
}

// number is what b's bytes make, lowest first.
func number(b []byte) uint64 {
	n := uint64(0)
	for i, x := range b {
		n += uint64(x) << (8 * i)
	}
	return n
}

func turn32(x uint32, n int) uint32 {
	return x<<n | x>>(32-n)
}

func turn64(x uint64, n int) uint64 {
	return x<<n | x>>(64-n)
}

// model32 is section 2.1's Sum32, read off step by step over the whole text.
func model32(seed uint32, b []byte) uint32 {
	var p1, p2, p3, p4, p5 uint32 = 2654435761, 2246822519, 3266489917, 668265263, 374761393
	size := uint32(len(b))
	h := seed + p5
	if len(b) >= 16 {
		v1, v2, v3, v4 := seed+p1+p2, seed+p2, seed, seed-p1
		for ; len(b) >= 16; b = b[16:] {
			v1 = turn32(v1+uint32(number(b[0:4]))*p2, 13) * p1
			v2 = turn32(v2+uint32(number(b[4:8]))*p2, 13) * p1
			v3 = turn32(v3+uint32(number(b[8:12]))*p2, 13) * p1
			v4 = turn32(v4+uint32(number(b[12:16]))*p2, 13) * p1
		}
		h = turn32(v1, 1) + turn32(v2, 7) + turn32(v3, 12) + turn32(v4, 18)
	}
	h += size
	for ; len(b) >= 4; b = b[4:] {
		h = turn32(h+uint32(number(b[:4]))*p3, 17) * p4
	}
	for _, x := range b {
		h = turn32(h+uint32(x)*p5, 11) * p1
	}
	h = (h ^ (h >> 15)) * p2
	h = (h ^ (h >> 13)) * p3
	return h ^ (h >> 16)
}

// model64 is section 2.1's Sum64, read off step by step over the whole text.
func model64(seed uint64, b []byte) uint64 {
	var p1, p2, p3 uint64 = 11400714785074694791, 14029467366897019727, 1609587929392839161
	var p4, p5 uint64 = 9650029242287828579, 2870177450012600261
	round := func(v, w uint64) uint64 { return turn64(v+w*p2, 31) * p1 }
	size := uint64(len(b))
	h := seed + p5
	if len(b) >= 32 {
		v1, v2, v3, v4 := seed+p1+p2, seed+p2, seed, seed-p1
		for ; len(b) >= 32; b = b[32:] {
			v1 = round(v1, number(b[0:8]))
			v2 = round(v2, number(b[8:16]))
			v3 = round(v3, number(b[16:24]))
			v4 = round(v4, number(b[24:32]))
		}
		h = turn64(v1, 1) + turn64(v2, 7) + turn64(v3, 12) + turn64(v4, 18)
		h = (h^round(0, v1))*p1 + p4
		h = (h^round(0, v2))*p1 + p4
		h = (h^round(0, v3))*p1 + p4
		h = (h^round(0, v4))*p1 + p4
	}
	h += size
	for ; len(b) >= 8; b = b[8:] {
		h = turn64(h^round(0, number(b[:8])), 27)*p1 + p4
	}
	if len(b) >= 4 {
		h = turn64(h^(number(b[:4])*p1), 23)*p2 + p3
		b = b[4:]
	}
	for _, x := range b {
		h = turn64(h^(uint64(x)*p5), 11) * p1
	}
	h = (h ^ (h >> 33)) * p2
	h = (h ^ (h >> 29)) * p3
	return h ^ (h >> 32)
}
