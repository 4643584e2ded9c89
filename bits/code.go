package bits

import (
	"math/bits"

	"satchel/api"
)

// Code is the words of some symbols.
type Code struct {
	words  []api.Word // by their symbols
	sorted []int      // the symbols in the order of their words
	rows   rows
}

// row is the words of one length: how many there are, the first one's number, and its place in the order of all words.
type row struct{ count, number, place int }

// rows are the words of a code by their lengths; those of the length 0, the symbols without a word, are not counted.
type rows [api.MaxCode + 1]row

// allRoom is what a whole code takes up, in words of the greatest length.
const allRoom = 1 << api.MaxCode

// NewCode makes a code of the lengths of the symbols' words (0: none).
func NewCode(lengths []int) (*Code, api.Errno) {
	if !canBe(lengths) {
		return nil, api.ErrCode
	}
	r := rowsOf(lengths)
	if r.room() == 0 || r.room() > allRoom {
		return nil, api.ErrCode
	}
	c := &Code{words: make([]api.Word, len(lengths)), sorted: make([]int, r.words()), rows: r}
	eachWord(lengths, r, func(symbol, place int, w api.Word) {
		c.words[symbol] = w
		c.sorted[place] = symbol
	})
	return c, api.OK
}

// Whole tells whether every row of bits begins with a word.
func (c *Code) Whole() bool {
	return c.rows.room() == allRoom
}

// Word is a symbol's word.
func (c *Code) Word(symbol int) (api.Word, api.Errno) {
	if symbol < 0 || symbol >= len(c.words) {
		return api.Word{}, api.ErrArg
	}
	if c.words[symbol].N == 0 {
		return api.Word{}, api.ErrSymbol
	}
	return c.words[symbol], api.OK
}

// Read takes the next word and answers its symbol.
func (c *Code) Read(r *Reader) (int, api.Errno) {
	next := turned(r.ahead(api.MaxCode), api.MaxCode)
	for n := 1; n <= api.MaxCode; n++ {
		// No shorter word begins these bits, so that they are not below the first one of this length.
		i := int(next>>(api.MaxCode-n)) - c.rows[n].number
		if i >= c.rows[n].count {
			continue
		}
		// Zeros behind the end made this word whole: so the bits that are left are its beginning.
		if n > r.Left() {
			return 0, api.ErrBits
		}
		r.at += n
		return c.sorted[c.rows[n].place+i], api.OK
	}
	// Behind the last word no bits lead back to one: zeros are the lowest that could stand behind the end.
	return 0, api.ErrSymbol
}

// canBe tells whether there may be so many lengths, and each of them.
func canBe(lengths []int) bool {
	for _, n := range lengths {
		if n < 0 || n > api.MaxCode {
			return false
		}
	}
	return len(lengths) <= api.MaxSyms
}

// rowsOf lays the words of these lengths out, also of lengths that are too many for a code.
func rowsOf(lengths []int) rows {
	var r rows
	for _, n := range lengths {
		if n > 0 {
			r[n].count++
		}
	}
	for n := 1; n <= api.MaxCode; n++ {
		shorter := r[n-1]
		r[n].number = 2 * (shorter.number + shorter.count)
		r[n].place = shorter.place + shorter.count
	}
	return r
}

// room is what all words take up: the number behind the last one, if that had the greatest length.
func (r rows) room() int {
	return r[api.MaxCode].number + r[api.MaxCode].count
}

// words is how many words there are.
func (r rows) words() int {
	return r[api.MaxCode].place + r[api.MaxCode].count
}

// eachWord tells every symbol with a word, that word's place in the order of all, and the word.
func eachWord(lengths []int, r rows, tell func(symbol, place int, w api.Word)) {
	for symbol, n := range lengths {
		if n == 0 {
			continue
		}
		tell(symbol, r[n].place, api.Word{Bits: turned(uint32(r[n].number), n), N: n})
		r[n].place++
		r[n].number++
	}
}

// turned is the lowest n bits of a number with the last one first.
func turned(v uint32, n int) uint32 {
	return bits.Reverse32(v) >> (32 - n)
}
