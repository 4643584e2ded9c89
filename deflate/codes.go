package deflate

import (
	"slices"

	"satchel/api"
	"satchel/bits"
)

// codes are a block's.
type codes struct {
	symbols, distances *bits.Code
}

const (
	allSymbols   = 286
	allDistances = 30

	leastSymbols   = 257
	leastDistances = 1
	leastLengths   = 4

	mostLength = 7 // of a word of lengths
)

// order is that in which the lengths of the words of lengths stand.
var order = [...]int{16, 17, 18, 0, 8, 7, 9, 6, 10, 5, 11, 4, 12, 3, 13, 2, 14, 1, 15}

// fixedCodes are the codes that need not be told.
func fixedCodes() codes {
	nines := slices.Repeat([]int{9}, 112)
	sevens := slices.Repeat([]int{7}, 24)
	symbols := slices.Concat(slices.Repeat([]int{8}, 144), nines, sevens, slices.Repeat([]int{8}, 8))
	return codes{symbols: codeOf(symbols), distances: codeOf(slices.Repeat([]int{5}, allDistances))}
}

// codeOf is the code of some lengths; nil, if none has a word.
func codeOf(lengths []int) *bits.Code {
	c, _ := bits.NewCode(lengths)
	return c
}

// lengthsFor is the lengths of the words of symbols and of distances that are the best for a block's parts.
func lengthsFor(parts []part) ([]int, []int) {
	var symbols [allSymbols]int64
	var distances [allDistances]int64
	eachNumber(parts, func(n number) { symbols[n.symbol]++ }, func(n number) { distances[n.symbol]++ })
	// The standard speaks of a single word among the distances alone: so the end of no bytes has a word beside it.
	if len(parts) == 0 {
		symbols[0]++
	}
	return lengthsOf(symbols[:], leastSymbols), lengthsOf(distances[:], leastDistances)
}

// lengthsOf is the best lengths, without the zeros at their end, but at least so many.
func lengthsOf(often []int64, least int) []int {
	l, _ := bits.Lengths(often, api.MaxCode)
	for len(l) > least && l[len(l)-1] == 0 {
		l = l[:len(l)-1]
	}
	return l
}

// tellLengths writes the lengths of a block's own words, in a code of their own.
func (s *stream) tellLengths(symbols, distances []int) {
	told := runs(slices.Concat(symbols, distances))
	var often [len(order)]int64
	for _, n := range told {
		often[n.symbol]++
	}
	lengths, _ := bits.Lengths(often[:], mostLength)
	count := len(order)
	for count > leastLengths && lengths[order[count-1]] == 0 {
		count--
	}
	s.Put(uint32(len(symbols)-leastSymbols), 5)
	s.Put(uint32(len(distances)-leastDistances), 5)
	s.Put(uint32(count-leastLengths), 4)
	for i := range count {
		s.Put(uint32(lengths[order[i]]), 3)
	}
	c := codeOf(lengths)
	for _, n := range told {
		s.number(c, n)
	}
}

// repeat is a symbol that says a length some times, how many in its further bits.
type repeat struct{ symbol, least, most, bits int }

// repeatsOf are the symbols that say a length again, or zero; those of more times first.
func repeatsOf(length int) []repeat {
	if length == 0 {
		return []repeat{{18, 11, 138, 7}, {17, 3, 10, 3}}
	}
	return []repeat{{16, 3, 6, 2}}
}

// runs is how lengths are told, one behind the other.
func runs(lengths []int) []number {
	var l []number
	for at := 0; at < len(lengths); {
		length := lengths[at]
		times := 1
		for at+times < len(lengths) && lengths[at+times] == length {
			times++
		}
		at += times
		l = append(l, run(length, times)...)
	}
	return l
}

// run is how a length is told that comes some times.
func run(length, times int) []number {
	var l []number
	one := number{symbol: length}
	// What says a length again can't be the first to say it.
	if length > 0 {
		l = append(l, one)
		times--
	}
	for _, r := range repeatsOf(length) {
		for times >= r.least {
			n := min(times, r.most)
			l = append(l, number{symbol: r.symbol, more: uint32(n - r.least), n: r.bits})
			times -= n
		}
	}
	return append(l, slices.Repeat([]number{one}, times)...)
}

// parts writes a block's parts and its end.
func (s *stream) parts(parts []part, c codes) {
	eachNumber(parts, func(n number) { s.number(c.symbols, n) }, func(n number) { s.number(c.distances, n) })
}

// number writes a symbol's word and its further bits.
func (s *stream) number(c *bits.Code, n number) {
	w, _ := c.Word(n.symbol)
	s.Put(w.Bits, w.N)
	s.Put(n.more, n.n)
}
