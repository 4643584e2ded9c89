package frame

import (
	"satchel/api"
	"satchel/xxh"
)

const (
	magicFrame   = 0x184d2204
	magicSkipped = 0x184d2a50
	users        = 15 // the bits of a skipped frame's magic that are its user's

	leastBlock    = 4
	greatestBlock = 7

	version   = 64
	plainSize = 1 << 31 // the bit of a block's size that says that it is plain
)

// flag is a bit of FLG, and what of a shape it tells.
type flag struct {
	bit byte
	on  *bool
}

// flagsOf are the flags that tell of s, or that s is told by.
func flagsOf(s *api.Shape) []flag {
	return []flag{
		{32, &s.Alone},
		{16, &s.BlockSums},
		{8, &s.ContentSize},
		{4, &s.ContentSum},
	}
}

// longest is how many bytes a block has at most.
func longest(block int) int {
	return 1 << (8 + 2*block)
}

// headSum is the last byte of a head that begins with these.
func headSum(head []byte) byte {
	return byte(xxh.Sum32(0, head) >> 8)
}

func isSkipped(magic uint64) bool {
	return magic&^users == magicSkipped
}
