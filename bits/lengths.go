package bits

import (
	"cmp"
	"slices"

	"satchel/api"
)

// mostOften is the greatest number of times that a symbol may come.
const mostOften = 1 << 40

// Lengths is the best lengths of words for how often symbols come, none above most.
func Lengths(often []int64, most int) ([]int, api.Errno) {
	if !canCome(often) || most < 1 || most > api.MaxCode {
		return nil, api.ErrArg
	}
	symbols := rarestFirst(often)
	if len(symbols) > 1<<most {
		return nil, api.ErrLong
	}
	lengths := make([]int, len(often))
	// A symbol that comes alone would need no bit at all to be told.
	if len(symbols) == 1 {
		lengths[symbols[0]] = 1
		return lengths, api.OK
	}
	share(often, symbols, most, func(symbol int) { lengths[symbol]++ })
	return lengths, api.OK
}

// canCome tells whether there may be so many symbols, and each so often.
func canCome(often []int64) bool {
	for _, n := range often {
		if n < 0 || n > mostOften {
			return false
		}
	}
	return 0 < len(often) && len(often) <= api.MaxSyms
}

// rarestFirst is the symbols that come at all, those of one number in their own order.
func rarestFirst(often []int64) []int {
	var l []int
	for symbol, n := range often {
		if n > 0 {
			l = append(l, symbol)
		}
	}
	slices.SortStableFunc(l, func(x, y int) int { return cmp.Compare(often[x], often[y]) })
	return l
}

// coin is what one more bit costs: for a symbol that comes so often, or for two coins of the purse ahead together.
type coin struct {
	cost int64
	pair bool
}

// share tells for each symbol as many times as its best length has bits, symbols being none or at least two, rarest first.
//
// This is the coin collector's way (package-merge): a word of n bits is paid for by one coin of each of the worths 1/2, 1/4 .. 1/2^n. Lengths are a whole code of k symbols just if the worths come to k - 1, and the cheapest coins that do, no worth below 1/2^most, are the best lengths.
func share(often []int64, symbols []int, most int, tell func(symbol int)) {
	var purses [api.MaxCode][]coin
	var pairs []coin
	for i := range most {
		purses[i] = merged(often, symbols, pairs)
		pairs = paired(purses[i])
	}
	// Twice k - 1 coins of the worth 1/2 are asked, and for each pair among those two of the next worth.
	take := 2 * max(len(symbols)-1, 0)
	for i := most - 1; i >= 0; i-- {
		single := singles(purses[i][:take])
		for _, symbol := range symbols[:single] {
			tell(symbol)
		}
		take = 2 * (take - single)
	}
}

// merged is the purse of each symbol's coin and these pairs, the cheapest first; of one cost the symbol's.
func merged(often []int64, symbols []int, pairs []coin) []coin {
	purse := make([]coin, 0, len(symbols)+len(pairs))
	for _, symbol := range symbols {
		for len(pairs) > 0 && pairs[0].cost < often[symbol] {
			purse = append(purse, pairs[0])
			pairs = pairs[1:]
		}
		purse = append(purse, coin{cost: often[symbol]})
	}
	return append(purse, pairs...)
}

// paired is a purse's coins by twos; one that is left over is of no use.
func paired(purse []coin) []coin {
	pairs := make([]coin, 0, len(purse)/2)
	for i := 1; i < len(purse); i += 2 {
		pairs = append(pairs, coin{cost: purse[i-1].cost + purse[i].cost, pair: true})
	}
	return pairs
}

// singles is how many of these coins are a symbol's.
func singles(coins []coin) int {
	n := 0
	for _, c := range coins {
		if !c.pair {
			n++
		}
	}
	return n
}
