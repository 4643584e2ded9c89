package inflate_test

import (
	"strings"

	"satchel/api"
)

// The model has bits as a text of 0 and 1, in the order in which they are read.

// rowOf is the bits of bytes.
func rowOf(b []byte) string {
	row := make([]byte, 8*len(b))
	for i := range row {
		row[i] = '0' + b[i/8]>>(i%8)&1
	}
	return string(row)
}

// bytesOf is the bytes of bits, the last one filled up with zeros.
func bytesOf(row string) []byte {
	b := make([]byte, (len(row)+7)/8)
	for i := range row {
		b[i/8] |= (row[i] - '0') << (i % 8)
	}
	return b
}

// num is a number as n bits, the one of the weight 1 first.
func num(v, n int) string {
	row := ""
	for i := range n {
		row += string(rune('0' + v>>i&1))
	}
	return row
}

// wordsOf is the words of lengths that are a code, as they are written, by the standard's own rule (RFC 1951, 3.2.2); of a symbol without one the empty text.
func wordsOf(lengths []int) []string {
	var count, next [17]int
	for _, n := range lengths {
		if n > 0 {
			count[n]++
		}
	}
	for n := 1; n <= 15; n++ {
		next[n] = (next[n-1] + count[n-1]) << 1
	}
	words := make([]string, len(lengths))
	for symbol, n := range lengths {
		for i := n - 1; i >= 0; i-- {
			words[symbol] += string(rune('0' + next[n]>>i&1))
		}
		next[n]++
	}
	return words
}

// taken is how much of all rows of 15 bits begin with a word of these lengths, and how many of them have one.
func taken(lengths []int) (rows, words int) {
	for _, n := range lengths {
		if n > 0 {
			rows += 1 << (15 - n)
			words++
		}
	}
	return rows, words
}

// codeCanBe is the rule of ErrLengths for the symbols and for the distances that have words.
func codeCanBe(lengths []int) bool {
	rows, words := taken(lengths)
	return rows == 1<<15 || words == 1 && rows == 1<<14
}

// modelCode is symbols by their words, and all that begins a word.
type modelCode struct {
	symbols map[string]int
	begins  map[string]bool
}

func newModelCode(lengths []int) modelCode {
	c := modelCode{map[string]int{}, map[string]bool{}}
	for symbol, w := range wordsOf(lengths) {
		if w == "" {
			continue
		}
		c.symbols[w] = symbol
		for n := range w {
			c.begins[w[:n]] = true
		}
	}
	return c
}

// The table of section 6.1 and the text behind it, row by row.
var (
	lengthBase = []int{3, 4, 5, 6, 7, 8, 9, 10, 11, 13, 15, 17, 19, 23, 27, 31, 35, 43, 51, 59, 67, 83, 99, 115, 131, 163, 195, 227, 258}
	lengthBits = []int{0, 0, 0, 0, 0, 0, 0, 0, 1, 1, 1, 1, 2, 2, 2, 2, 3, 3, 3, 3, 4, 4, 4, 4, 5, 5, 5, 5, 0}
	farBase    = []int{1, 2, 3, 4, 5, 7, 9, 13, 17, 25, 33, 49, 65, 97, 129, 193, 257, 385, 513, 769, 1025, 1537, 2049, 3073, 4097, 6145, 8193, 12289, 16385, 24577}
	farBits    = []int{0, 0, 0, 0, 1, 1, 2, 2, 3, 3, 4, 4, 5, 5, 6, 6, 7, 7, 8, 8, 9, 9, 10, 10, 11, 11, 12, 12, 13, 13}
	lengthsIn  = []int{16, 17, 18, 0, 8, 7, 9, 6, 10, 5, 11, 4, 12, 3, 13, 2, 14, 1, 15}
)

// fixedLengths are those of the fixed code of symbols; fixedFar those of the distances.
func fixedLengths() []int {
	l := make([]int, 288)
	for symbol := range l {
		switch {
		case symbol <= 143 || symbol >= 280:
			l[symbol] = 8
		case symbol <= 255:
			l[symbol] = 9
		default:
			l[symbol] = 7
		}
	}
	return l
}

func fixedFar() []int {
	l := make([]int, 32)
	for i := range l {
		l[i] = 5
	}
	return l
}

var fixedSymbols, fixedDistances = newModelCode(fixedLengths()), newModelCode(fixedFar())

// model is what section 6.1 says of some bytes.
type model struct {
	row   string
	at    int // how many bits were read; at the end, how many must be there to tell why
	most  int
	plain []byte
	by    []int // of each plain byte, how many bits must be there to tell it
	why   api.Errno
}

// newModel reads b as a stream, to its end or to the first error.
func newModel(b []byte, most int) (m *model) {
	m = &model{row: rowOf(b), most: most}
	defer func() {
		if p := recover(); p != nil {
			m.why = p.(api.Errno)
		}
	}()
	for last := false; !last; {
		last = m.number(1) == 1
		m.block(m.number(2))
	}
	return m
}

// size is how many bytes the stream has, if it is read to its end.
func (m *model) size() int {
	return (m.at + 7) / 8
}

func (m *model) number(n int) int {
	if m.at+n > len(m.row) {
		panic(api.ErrShort)
	}
	v := 0
	for i := range n {
		v += int(m.row[m.at+i]-'0') << i
	}
	m.at += n
	return v
}

func (m *model) symbol(c modelCode) int {
	for n := 0; m.at+n <= len(m.row); n++ {
		text := m.row[m.at : m.at+n]
		if symbol, ok := c.symbols[text]; ok {
			m.at += n
			return symbol
		}
		if !c.begins[text] {
			m.at += n
			panic(api.ErrWord)
		}
	}
	panic(api.ErrShort)
}

func (m *model) room(n int) {
	if len(m.plain)+n > m.most {
		panic(api.ErrPlain)
	}
}

func (m *model) put(x byte) {
	m.plain = append(m.plain, x)
	m.by = append(m.by, m.at)
}

func (m *model) block(kind int) {
	switch kind {
	case 0:
		m.stored()
	case 1:
		m.symbols(fixedSymbols, fixedDistances)
	case 2:
		m.symbols(m.own())
	default:
		panic(api.ErrKindOf)
	}
}

func (m *model) stored() {
	for m.at%8 != 0 {
		m.at++
	}
	n := m.number(16)
	if more := m.number(16); n+more != 65535 || n&more != 0 {
		panic(api.ErrStored)
	}
	m.room(n)
	for range n {
		m.put(byte(m.number(8)))
	}
}

func (m *model) own() (modelCode, modelCode) {
	head := []int{m.number(5) + 257, m.number(5) + 1, m.number(4) + 4}
	if head[0] > 286 || head[1] > 30 {
		panic(api.ErrLengths)
	}
	first := make([]int, 19)
	for i := range head[2] {
		first[lengthsIn[i]] = m.number(3)
	}
	if rows, _ := taken(first); rows != 1<<15 {
		panic(api.ErrLengths)
	}
	all := m.lengths(newModelCode(first), head[0]+head[1])
	symbols, far := all[:head[0]], all[head[0]:]
	_, words := taken(far)
	if symbols[256] == 0 || !codeCanBe(symbols) || words > 0 && !codeCanBe(far) {
		panic(api.ErrLengths)
	}
	return newModelCode(symbols), newModelCode(far)
}

func (m *model) lengths(c modelCode, n int) []int {
	var l []int
	for len(l) < n {
		symbol := m.symbol(c)
		length, times := symbol, 1
		switch symbol {
		case 16:
			if len(l) == 0 {
				panic(api.ErrLengths)
			}
			length, times = l[len(l)-1], m.number(2)+3
		case 17:
			length, times = 0, m.number(3)+3
		case 18:
			length, times = 0, m.number(7)+11
		}
		for range times {
			l = append(l, length)
		}
		if len(l) > n {
			panic(api.ErrLengths)
		}
	}
	return l
}

func (m *model) symbols(symbols, far modelCode) {
	for {
		symbol := m.symbol(symbols)
		switch {
		case symbol < 256:
			m.room(1)
			m.put(byte(symbol))
		case symbol == 256:
			return
		case symbol > 285:
			panic(api.ErrWord)
		default:
			m.match(lengthBase[symbol-257]+m.number(lengthBits[symbol-257]), far)
		}
	}
}

func (m *model) match(length int, far modelCode) {
	symbol := m.symbol(far)
	if symbol > 29 {
		panic(api.ErrWord)
	}
	distance := farBase[symbol] + m.number(farBits[symbol])
	if distance > len(m.plain) {
		panic(api.ErrDistance)
	}
	m.room(length)
	for range length {
		m.put(m.plain[len(m.plain)-distance])
	}
}

// The streams that tests make are rows of such bits.

// head is a block's first three bits.
func head(last bool, kind int) string {
	if last {
		return "1" + num(kind, 2)
	}
	return "0" + num(kind, 2)
}

// up fills a row up to a byte's end with some bit.
func up(row, bit string) string {
	return row + strings.Repeat(bit, (8-len(row)%8)%8)
}

// storedBehind is a stored block behind a row; the bits that are skipped are ones, as nothing is said of them.
func storedBehind(row string, last bool, plain []byte) string {
	return up(row+head(last, 0), "1") + num(len(plain), 16) + num(65535-len(plain), 16) + rowOf(plain)
}

// tongue is the words of a block's symbols and distances.
type tongue struct{ symbols, far []string }

func fixed() tongue {
	return tongue{wordsOf(fixedLengths()), wordsOf(fixedFar())}
}

// bytes is plain bytes, one symbol each.
func (g tongue) bytes(plain string) string {
	var row strings.Builder
	for i := range len(plain) {
		row.WriteString(g.symbols[plain[i]])
	}
	return row.String()
}

// end is the word that ends a block.
func (g tongue) end() string { return g.symbols[256] }

// match is a match by the symbols' numbers and their further bits.
func (g tongue) match(symbol, more, far, farMore int) string {
	return g.length(symbol, more) + g.far[far] + num(farMore, farBits[far])
}

// length is the first half of a match.
func (g tongue) length(symbol, more int) string {
	return g.symbols[symbol] + num(more, lengthBits[symbol-257])
}

// own is the row of a block's head with codes of its own, whose words it answers, too; the lengths are told one by one.
func own(last bool, symbols, far []int) (string, tongue) {
	var row strings.Builder
	row.WriteString(ownHead(last, len(symbols), len(far), 19, plainFirst()))
	first := wordsOf(plainFirst())
	for _, l := range [][]int{symbols, far} {
		for _, n := range l {
			row.WriteString(first[n])
		}
	}
	return row.String(), tongue{wordsOf(symbols), wordsOf(far)}
}

// plainFirst is a whole code of all 19 symbols that tell lengths.
func plainFirst() []int {
	return []int{4, 4, 4, 4, 4, 4, 4, 4, 4, 4, 4, 4, 4, 5, 5, 5, 5, 5, 5}
}

// ownHead is such a head up to the lengths of the words of lengths.
func ownHead(last bool, symbols, far, n int, first []int) string {
	row := head(last, 2) + num(symbols-257, 5) + num(far-1, 5) + num(n-4, 4)
	for _, symbol := range lengthsIn[:n] {
		row += num(first[symbol], 3)
	}
	return row
}
