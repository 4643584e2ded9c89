package frame

import (
	"satchel/api"
	"satchel/low"
	"satchel/lz"
	"satchel/xxh"
)

// encode makes the frame of plain, in a shape that can be.
func encode(plain []byte, s api.Shape) []byte {
	b := low.Put(nil, magicFrame, 4)
	b = append(b, headOf(s, len(plain))...)
	size := longest(s.Block)
	for at := 0; at < len(plain); at += size {
		piece, ahead := plain[at:min(at+size, len(plain))], plain[:at]
		if s.Alone {
			ahead = nil
		}
		b = putBlock(b, piece, ahead, s.BlockSums)
	}
	b = low.Put(b, 0, 4)
	if s.ContentSum {
		b = putSum(b, plain)
	}
	return b
}

// headOf is the head of a frame of so many plain bytes.
func headOf(s api.Shape, size int) []byte {
	first := byte(version)
	for _, f := range flagsOf(&s) {
		if *f.on {
			first |= f.bit
		}
	}
	head := []byte{first, byte(s.Block << 4)}
	if s.ContentSize {
		head = low.Put(head, uint64(size), 8)
	}
	return append(head, headSum(head))
}

// putBlock puts the block of a piece behind b: plain, if it would be no shorter otherwise.
func putBlock(b, piece, ahead []byte, sums bool) []byte {
	// No shape's piece is too long for lz, so there is no error.
	block, _ := lz.Encode(piece, ahead)
	size := uint64(len(block))
	if len(block) >= len(piece) {
		block, size = piece, uint64(len(piece)|plainSize)
	}
	b = low.Put(b, size, 4)
	b = append(b, block...)
	if sums {
		b = putSum(b, block)
	}
	return b
}

// putSum puts the sum of some bytes behind b.
func putSum(b, of []byte) []byte {
	return low.Put(b, uint64(xxh.Sum32(0, of)), 4)
}
