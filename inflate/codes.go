package inflate

import (
	"slices"

	"satchel/api"
	"satchel/bits"
)

// codes are a block's; no code of distances: none has a word.
type codes struct {
	symbols, distances *bits.Code
	fixed              bool
}

// order is that in which the lengths of the words of lengths stand.
var order = [...]int{16, 17, 18, 0, 8, 7, 9, 6, 10, 5, 11, 4, 12, 3, 13, 2, 14, 1, 15}

const (
	mostSymbols   = 286
	mostDistances = 30

	again     = 16 // the length ahead, some times
	zeros     = 17
	manyZeros = 18
)

// fixedCodes takes the codes that need not be told. Those of a block ahead serve again: a stream may be nothing but tiny blocks.
func (s *stream) fixedCodes() {
	if !s.codes.fixed {
		s.codes = newFixed()
	}
	s.at = inSymbols
}

func newFixed() codes {
	nines := slices.Repeat([]int{9}, 112)
	sevens := slices.Repeat([]int{7}, 24)
	symbols := slices.Concat(slices.Repeat([]int{8}, 144), nines, sevens, slices.Repeat([]int{8}, 8))
	return codes{symbols: codeOf(symbols), distances: codeOf(slices.Repeat([]int{5}, 32)), fixed: true}
}

// ownCodes reads the codes of a block that has its own.
func (s *stream) ownCodes() {
	symbols, distances, n := s.number(5)+257, s.number(5)+1, s.number(4)+4
	if symbols > mostSymbols || distances > mostDistances {
		giveUp(api.ErrLengths)
	}
	l := s.lengths(s.lengthsCode(n), symbols+distances)
	if l[endOfBlock] == 0 {
		giveUp(api.ErrLengths)
	}
	own := codes{symbols: codeOf(l[:symbols])}
	if slices.Max(l[symbols:]) > 0 {
		own.distances = codeOf(l[symbols:])
	}
	s.codes, s.at = own, inSymbols
}

// lengthsCode reads the code in which lengths are told.
func (s *stream) lengthsCode(n int) *bits.Code {
	lengths := make([]int, len(order))
	for i := range n {
		lengths[order[i]] = s.number(3)
	}
	c, why := bits.NewCode(lengths)
	if why != api.OK || !c.Whole() {
		giveUp(api.ErrLengths)
	}
	return c
}

// lengths reads so many lengths.
func (s *stream) lengths(c *bits.Code, n int) []int {
	var l []int
	repeat := func(length, times int) {
		l = append(l, slices.Repeat([]int{length}, times)...)
	}
	for len(l) < n {
		switch symbol := s.word(c); symbol {
		case again:
			if len(l) == 0 {
				giveUp(api.ErrLengths)
			}
			repeat(l[len(l)-1], 3+s.number(2))
		case zeros:
			repeat(0, 3+s.number(3))
		case manyZeros:
			repeat(0, 11+s.number(7))
		default:
			l = append(l, symbol)
		}
	}
	if len(l) > n {
		giveUp(api.ErrLengths)
	}
	return l
}

// codeOf is the code of a block's symbols or distances: one that is whole, or one of a single word, of one bit.
func codeOf(lengths []int) *bits.Code {
	c, why := bits.NewCode(lengths)
	if why != api.OK || !c.Whole() && !single(lengths) {
		giveUp(api.ErrLengths)
	}
	return c
}

// single tells whether just one symbol has a word, of one bit: so all lengths together are 1.
func single(lengths []int) bool {
	sum := 0
	for _, n := range lengths {
		sum += n
	}
	return sum == 1
}
