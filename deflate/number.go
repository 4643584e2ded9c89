package deflate

import "math/bits"

// number is a symbol, and n further bits of it.
type number struct {
	symbol int
	more   uint32
	n      int
}

const (
	endOfBlock  = 256
	firstLength = 257 // the symbol of the shortest match
	lastLength  = 285 // and of the longest one, which has no further bits
)

// eachNumber tells the symbols of a block's parts, of each match behind its own that of its distance, and at last the end's.
func eachNumber(parts []part, symbol, distance func(n number)) {
	for _, p := range parts {
		if p.length == 0 {
			symbol(number{symbol: int(p.what)})
			continue
		}
		symbol(lengthNumber(int(p.length)))
		distance(distanceNumber(int(p.what)))
	}
	symbol(number{symbol: endOfBlock})
}

// lengthNumber is how a match's length is told.
func lengthNumber(length int) number {
	if length == longest {
		return number{symbol: lastLength}
	}
	n := grouped(length-shortest, 2)
	n.symbol += firstLength
	return n
}

// distanceNumber is how a match's distance is told.
func distanceNumber(distance int) number {
	return grouped(distance-1, 1)
}

// grouped is how a value is told by symbols in groups of 2 to the power of fold: those of the first two groups have no further bits, and those of each group behind one more than those of the group ahead.
func grouped(v, fold int) number {
	n := max(bits.Len(uint(v))-fold-1, 0)
	return number{symbol: n<<fold + v>>n, more: uint32(v & (1<<n - 1)), n: n}
}
