package inflate_test

import (
	"strings"
	"testing"

	"satchel/api"
)

// op is a symbol that tells lengths, and its further bits.
type op struct{ symbol, more int }

// tell is lengths as these symbols tell them in a code.
func tell(first []int, ops ...op) string {
	words := wordsOf(first)
	var row strings.Builder
	for _, o := range ops {
		row.WriteString(words[o.symbol])
		switch o.symbol {
		case 16:
			row.WriteString(num(o.more, 2))
		case 17:
			row.WriteString(num(o.more, 3))
		case 18:
			row.WriteString(num(o.more, 7))
		}
	}
	return row.String()
}

// zeros are n lengths of 0, n at least 11, as few symbols tell them.
func zeros(n int) []op {
	var l []op
	for ; n > 138+10; n -= 138 {
		l = append(l, op{18, 127})
	}
	if n > 138 {
		l = append(l, op{17, 7})
		n -= 10
	}
	return append(l, op{18, n - 11})
}

// ownOf is the head of a block with such symbols and distances, its lengths told by these.
func ownOf(symbols, far int, ops ...op) string {
	return ownHead(true, symbols, far, 19, plainFirst()) + tell(plainFirst(), ops...)
}

// 6.1, ErrLengths: L and D at their ends, told behind the 14 bits and no sooner.
func TestHeadsOfOwn(t *testing.T) {
	for _, symbols := range []int{257, 258, 285, 286, 287, 288} {
		for _, far := range []int{1, 2, 29, 30, 31, 32} {
			for _, n := range []int{4, 19} {
				if symbols > 286 || far > 30 {
					wanted(t, "too many", head(true, 2)+num(symbols-257, 5)+num(far-1, 5)+num(n-4, 4), 9, "", api.ErrLengths)
				}
			}
			if symbols > 286 || far > 30 {
				continue
			}
			row, g := own(true, lengthsWith(symbols, map[int]int{'x': 2, 256: 2, symbols - 1: 1}), lengthsWith(far, map[int]int{far - 1: 1}))
			if symbols == 257 {
				row, g = own(true, lengthsWith(symbols, map[int]int{'x': 1, 256: 1}), lengthsWith(far, map[int]int{far - 1: 1}))
			}
			wanted(t, "as many as there may be", row+g.bytes("xx")+g.end(), 9, "xx", api.OK)
		}
	}
}

// 6.1, ErrLengths: the N lengths are no code, not whole, whole; told behind all of them.
func TestLengthsOfLengths(t *testing.T) {
	for n := 4; n <= 19; n++ {
		at := func(lengths ...int) string {
			first := make([]int, 19)
			for i, length := range lengths {
				first[lengthsIn[i]] = length
			}
			return ownHead(true, 257, 1, n, first)
		}
		wanted(t, "none", at(), 9, "", api.ErrLengths)
		wanted(t, "one of one bit", at(1), 9, "", api.ErrLengths)
		wanted(t, "one of seven bits", at(0, 0, 7), 9, "", api.ErrLengths)
		wanted(t, "not whole", at(2, 2, 0, 2), 9, "", api.ErrLengths)
		wanted(t, "too many", at(1, 1, 1), 9, "", api.ErrLengths)
		wanted(t, "a little too many", at(1, 1, 0, 7), 9, "", api.ErrLengths)
		wanted(t, "whole, and 16 with nothing ahead", at(1, 1)+"0", 9, "", api.ErrLengths)
		wanted(t, "whole, and all lengths 0", at(0, 0, 1, 1)+strings.Repeat("0", 258), 9, "", api.ErrLengths)
	}
	seven := []int{7, 7, 6, 5, 4, 3, 2, 1, 0, 0, 0, 0, 0, 0, 0, 0, 0, 0, 0}
	wanted(t, "words of up to seven bits", ownHead(true, 257, 1, 18, seven)+tell(seven, make([]op, 255)...)+tell(seven, op{1, 0}, op{1, 0}, op{0, 0})+"0"+"1", 1, "\xff", api.OK)
}

// 6.1: 16, 17 and 18: nothing ahead, just as many lengths as there are, one more, and over the border.
func TestLengthsTold(t *testing.T) {
	first := plainFirst()
	end := func(symbols, far int, ops ...op) string {
		return ownOf(symbols, far, append(append(zeros(256), op{1, 0}), ops...)...)
	}
	wanted(t, "16 with nothing ahead", ownHead(true, 257, 1, 19, first)+wordsOf(first)[16], 9, "", api.ErrLengths)
	wanted(t, "16 behind 0", ownOf(257, 1, append([]op{{0, 0}, {16, 3}}, append(zeros(249), op{1, 0}, op{0, 0})...)...)+"0", 9, "", api.OK)
	wanted(t, "16 behind 17", ownOf(257, 1, append([]op{{17, 0}, {16, 0}}, append(zeros(250), op{1, 0}, op{0, 0})...)...)+"0", 9, "", api.OK)
	for more := range 4 {
		lengths := append(zeros(256), op{1, 0}, op{0, 0}, op{16, more})
		wanted(t, "16 up to the end", ownOf(257, 4+more, lengths...)+"0", 9, "", api.OK)
		wanted(t, "16 up to one behind", ownOf(257, 3+more, lengths...), 9, "", api.ErrLengths)
		wanted(t, "16 up to one ahead", ownOf(257, 5+more, append(lengths, op{1, 0})...)+"0", 9, "", api.OK)
	}
	for more := range 8 {
		wanted(t, "17 up to the end", end(257, 3+more, op{17, more})+"0", 9, "", api.OK)
		wanted(t, "17 up to one behind", end(257, 2+more, op{17, more}), 9, "", api.ErrLengths)
		wanted(t, "17 over the border", end(259, 1+more, op{17, more})+"0", 9, "", api.OK)
		wanted(t, "17 over the border and one behind", end(258, 1+more, op{17, more}), 9, "", api.ErrLengths)
	}
	for _, more := range []int{0, 1, 18, 19} {
		wanted(t, "18 up to the end", end(257, 11+more, op{18, more})+"0", 9, "", api.OK)
		wanted(t, "18 up to one behind", end(257, 10+more, op{18, more}), 9, "", api.ErrLengths)
		wanted(t, "18 over the border", end(267, 1+more, op{18, more})+"0", 9, "", api.OK)
		wanted(t, "18 over the border and one behind", end(266, 1+more, op{18, more}), 9, "", api.ErrLengths)
	}
	wanted(t, "18 of all behind", end(286, 30, op{18, 48})+"0", 9, "", api.OK)
	wanted(t, "18 of far too many", end(286, 30, op{18, 127}), 9, "", api.ErrLengths)
	overBorder(t)
}

// overBorder has a 16 that tells lengths of symbols and of distances.
func overBorder(t *testing.T) {
	t.Helper()
	g := tongue{wordsOf(lengthsWith(257, map[int]int{253: 2, 254: 2, 255: 2, 256: 2})), wordsOf([]int{2, 2, 2, 2})}
	body := g.bytes("\xfd\xfe\xff") + g.end()
	lengths := append(zeros(253), op{2, 0}, op{16, 3})
	wanted(t, "16 over the border", ownOf(257, 4, append(lengths, op{2, 0})...)+body, 9, "\xfd\xfe\xff", api.OK)
	wanted(t, "16 over the border, twice", ownOf(257, 7, append(lengths, op{16, 1})...), 9, "", api.ErrLengths)
	wanted(t, "16 over the border and too many", ownOf(257, 2, lengths...), 9, "", api.ErrLengths)
	g.far = wordsOf([]int{2, 2, 2, 0, 0, 0, 0, 0, 2})
	g.symbols = wordsOf(lengthsWith(258, map[int]int{254: 2, 255: 2, 256: 2, 257: 2}))
	lengths = append(zeros(254), op{2, 0}, op{16, 3}, op{17, 2}, op{2, 0})
	wanted(t, "16 over the border, and a match", ownOf(258, 9, lengths...)+g.bytes("\xff\xfe\xff")+g.match(257, 0, 1, 0)+g.end(), 9, "\xff\xfe\xff\xfe\xff\xfe", api.OK)
}

// 6.1, ErrLengths and ErrWord: codes of symbols that are whole, not whole, of a single word, without a word of 256.
func TestCodesOfSymbols(t *testing.T) {
	for _, x := range []struct {
		name    string
		lengths map[int]int
		why     api.Errno
	}{
		{"256 alone, of one bit", map[int]int{256: 1}, api.OK},
		{"256 alone, of two bits", map[int]int{256: 2}, api.ErrLengths},
		{"256 alone, of 15 bits", map[int]int{256: 15}, api.ErrLengths},
		{"another one alone", map[int]int{'a': 1}, api.ErrLengths},
		{"none", nil, api.ErrLengths},
		{"whole, without 256", map[int]int{'a': 1, 'b': 1}, api.ErrLengths},
		{"whole", map[int]int{'a': 1, 256: 1}, api.OK},
		{"two, not whole", map[int]int{'a': 1, 256: 2}, api.ErrLengths},
		{"two of two bits", map[int]int{'a': 2, 256: 2}, api.ErrLengths},
		{"three of one bit", map[int]int{'a': 1, 'b': 1, 256: 1}, api.ErrLengths},
		{"a little too many", map[int]int{'a': 1, 'b': 15, 256: 1}, api.ErrLengths},
		{"a little too few", map[int]int{1: 1, 2: 2, 3: 3, 4: 4, 5: 5, 6: 6, 7: 7, 8: 8, 9: 9, 10: 10, 11: 11, 12: 12, 13: 13, 14: 14, 256: 15}, api.ErrLengths},
		{"of all lengths", map[int]int{1: 1, 2: 2, 3: 3, 4: 4, 5: 5, 6: 6, 7: 7, 8: 8, 9: 9, 10: 10, 11: 11, 12: 12, 13: 13, 14: 14, 15: 15, 256: 15}, api.OK},
	} {
		row, g := own(true, lengthsWith(257, x.lengths), []int{0})
		if x.why == api.OK {
			wanted(t, x.name, row+g.end(), 9, "", api.OK)
			continue
		}
		wanted(t, x.name, row, 9, "", x.why)
	}
	row, _ := own(true, lengthsWith(257, map[int]int{256: 1}), []int{0})
	wanted(t, "no word of a single one", row+"1", 9, "", api.ErrWord)
	row, g := own(false, lengthsWith(258, map[int]int{'a': 2, 256: 2, 257: 1}), []int{1})
	wanted(t, "a length's word with nothing ahead", row+g.match(257, 0, 0, 0), 9, "", api.ErrDistance)
}

// 6.1, ErrLengths and ErrWord: distances without a word, with a single one, whole and not.
func TestCodesOfDistances(t *testing.T) {
	symbols := lengthsWith(286, map[int]int{'a': 2, 256: 2, 257: 2, 284: 2})
	for _, x := range []struct {
		name string
		far  []int
		why  api.Errno
	}{
		{"none", []int{0}, api.OK},
		{"none of 30", make([]int, 30), api.OK},
		{"one of one bit", []int{1}, api.OK},
		{"one of one bit behind others", lengthsWith(30, map[int]int{29: 1}), api.OK},
		{"one of two bits", []int{2}, api.ErrLengths},
		{"one of two bits behind others", lengthsWith(30, map[int]int{29: 2}), api.ErrLengths},
		{"one of 15 bits", []int{15}, api.ErrLengths},
		{"two of one bit", []int{1, 1}, api.OK},
		{"three of one bit", []int{1, 1, 1}, api.ErrLengths},
		{"two of two bits", []int{2, 2}, api.ErrLengths},
		{"not whole", []int{1, 2}, api.ErrLengths},
		{"whole", []int{1, 2, 2}, api.OK},
		{"a little too many", []int{1, 1, 15}, api.ErrLengths},
	} {
		row, g := own(true, symbols, x.far)
		if x.why == api.OK {
			wanted(t, x.name, row+g.bytes("aa")+g.end(), 9, "aa", api.OK)
			continue
		}
		wanted(t, x.name, row, 9, "", x.why)
	}
	row, g := own(true, symbols, []int{0})
	wanted(t, "a distance where none has a word", row+g.bytes("a")+g.length(257, 0), 9, "a", api.ErrWord)
	wanted(t, "a distance where none has a word, behind further bits", row+g.bytes("a")+g.length(284, 21), 9, "a", api.ErrWord)
	row, g = own(true, symbols, []int{1})
	wanted(t, "the one distance", row+g.bytes("a")+g.match(257, 0, 0, 0)+g.end(), 9, "aaaa", api.OK)
	wanted(t, "not the one distance", row+g.bytes("a")+g.length(257, 0)+"1", 9, "a", api.ErrWord)
	row, g = own(true, symbols, lengthsWith(5, map[int]int{4: 1}))
	wanted(t, "one distance with further bits", row+g.bytes("aaaaa")+g.match(257, 0, 4, 0)+g.end(), 9, "aaaaaaaa", api.OK)
	wanted(t, "one distance with further bits, too far", row+g.bytes("aaaaa")+g.match(257, 0, 4, 1), 9, "aaaaa", api.ErrDistance)
}

// 6.1: blocks whose codes are their own, fixed, and their own again: none keeps another one's.
func TestCodesOfEachBlock(t *testing.T) {
	one, g := own(false, lengthsWith(257, map[int]int{'a': 1, 256: 1}), []int{0})
	two, h := own(false, lengthsWith(258, map[int]int{'b': 2, 256: 2, 257: 1}), []int{1})
	f := fixed()
	body := one + g.bytes("aa") + g.end() +
		head(false, 1) + f.bytes("a") + f.match(257, 0, 2, 0) + f.end() +
		two + h.bytes("b") + h.match(257, 0, 0, 0) + h.end() +
		one + g.end() +
		head(false, 1) + f.match(258, 0, 3, 0) + f.end() +
		head(true, 1) + f.bytes("c") + f.end()
	wanted(t, "blocks of each kind", body, 99, "aaaaaabbbbbbbbc", api.OK)
	none, n := own(false, lengthsWith(258, map[int]int{'b': 2, 256: 2, 257: 1}), []int{0})
	for _, ahead := range []string{head(false, 1) + f.bytes("a") + f.end(), one + g.bytes("a") + g.end() + two + h.end()} {
		wanted(t, "no distances behind some", ahead+none+n.length(257, 0), 99, "a", api.ErrWord)
	}
	row := storedBehind(body[:len(body)-len(head(true, 1)+f.bytes("c")+f.end())], false, []byte("st"))
	row += head(false, 1) + f.bytes("d") + f.end() + one + g.bytes("a") + g.end()
	if m := held(t, bytesOf(storedBehind(row, true, []byte("end"))), 99); string(m.plain) != "aaaaaabbbbbbbbstdaend" || m.why != api.OK {
		t.Errorf("%q %d", m.plain, m.why)
	}
}
