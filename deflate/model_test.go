package deflate_test

import (
	"bytes"
	"compress/flate"
	"fmt"
	"io"
	"math/rand"
	"slices"
	"testing"

	"satchel/api"
	"satchel/bits"
	"satchel/deflate"
)

// ways are all of them.
var ways = []int{deflate.Stored, deflate.Fixed, deflate.Dynamic, deflate.Best}

// match is so many bytes from so far back.
type match struct{ length, distance int }

// block is what a stream's block is.
type block struct {
	kind    int
	plain   int // how many plain bytes it comes to
	matches []match
}

// model reads a stream as section 6.1 says it, bit by bit, and is stricter where the standard is: of the symbols a single word is not enough, and a match of 258 bytes has its own symbol.
type model struct {
	t      *testing.T
	r      *bits.Reader
	plain  []byte
	blocks []block
}

// read is a whole stream, read by the model.
func read(t *testing.T, b []byte) *model {
	t.Helper()
	m := &model{t: t, r: bits.NewReader(b)}
	for last := false; !last; {
		last = m.number(1) == 1
		m.block(m.number(2))
	}
	if m.r.Left() > 7 {
		t.Fatalf("%s: %d bits behind the last block", short(b), m.r.Left())
	}
	return m
}

func (m *model) number(n int) int {
	m.t.Helper()
	v, why := m.r.Take(n)
	if why != api.OK {
		m.t.Fatal("the stream is cut off")
	}
	return int(v)
}

func (m *model) word(c *bits.Code) int {
	m.t.Helper()
	if c == nil {
		m.t.Fatal("a distance where none has a word")
	}
	symbol, why := c.Read(m.r)
	if why != api.OK {
		m.t.Fatal("no word")
	}
	return symbol
}

func (m *model) block(kind int) {
	m.t.Helper()
	before := len(m.plain)
	m.blocks = append(m.blocks, block{kind: kind})
	switch kind {
	case 0:
		m.stored()
	case 1:
		symbols := slices.Concat(slices.Repeat([]int{8}, 144), slices.Repeat([]int{9}, 112), slices.Repeat([]int{7}, 24), slices.Repeat([]int{8}, 8))
		m.symbols(m.code(symbols), m.code(slices.Repeat([]int{5}, 32)))
	case 2:
		m.symbols(m.own())
	default:
		m.t.Fatal("kind 3")
	}
	m.blocks[len(m.blocks)-1].plain = len(m.plain) - before
}

func (m *model) stored() {
	m.t.Helper()
	m.r.Align()
	n := m.number(16)
	if m.number(16) != 65535-n {
		m.t.Fatal("a stored block's length is not said twice")
	}
	b, why := m.r.Bytes(n)
	if why != api.OK {
		m.t.Fatal("a stored block is cut off")
	}
	m.plain = append(m.plain, b...)
}

// code is a whole code.
func (m *model) code(lengths []int) *bits.Code {
	m.t.Helper()
	c, why := bits.NewCode(lengths)
	if why != api.OK || !c.Whole() {
		m.t.Fatalf("no whole code: %v", lengths)
	}
	return c
}

func (m *model) own() (*bits.Code, *bits.Code) {
	m.t.Helper()
	symbols, distances, n := m.number(5)+257, m.number(5)+1, m.number(4)+4
	if symbols > 286 || distances > 30 {
		m.t.Fatal("too many lengths", symbols, distances)
	}
	var first [19]int
	for _, symbol := range []int{16, 17, 18, 0, 8, 7, 9, 6, 10, 5, 11, 4, 12, 3, 13, 2, 14, 1, 15}[:n] {
		first[symbol] = m.number(3)
	}
	l := m.lengths(m.code(first[:]), symbols+distances)
	if l[256] == 0 {
		m.t.Fatal("no word of the end")
	}
	far := l[symbols:]
	switch sum := slices.Max(far); {
	case sum == 0:
		return m.code(l[:symbols]), nil
	case sum == 1 && !slices.Contains(far[slices.Index(far, 1)+1:], 1):
		c, _ := bits.NewCode(far)
		return m.code(l[:symbols]), c
	}
	return m.code(l[:symbols]), m.code(far)
}

func (m *model) lengths(c *bits.Code, n int) []int {
	m.t.Helper()
	var l []int
	for len(l) < n {
		switch symbol := m.word(c); symbol {
		case 16:
			if len(l) == 0 {
				m.t.Fatal("nothing ahead of a 16")
			}
			l = append(l, slices.Repeat(l[len(l)-1:], 3+m.number(2))...)
		case 17:
			l = append(l, make([]int, 3+m.number(3))...)
		case 18:
			l = append(l, make([]int, 11+m.number(7))...)
		default:
			l = append(l, symbol)
		}
	}
	if len(l) > n {
		m.t.Fatal("too many lengths are told")
	}
	return l
}

// The table of section 6.1.
var (
	lengthBase = []int{3, 4, 5, 6, 7, 8, 9, 10, 11, 13, 15, 17, 19, 23, 27, 31, 35, 43, 51, 59, 67, 83, 99, 115, 131, 163, 195, 227, 258}
	lengthBits = []int{0, 0, 0, 0, 0, 0, 0, 0, 1, 1, 1, 1, 2, 2, 2, 2, 3, 3, 3, 3, 4, 4, 4, 4, 5, 5, 5, 5, 0}
	farBase    = []int{1, 2, 3, 4, 5, 7, 9, 13, 17, 25, 33, 49, 65, 97, 129, 193, 257, 385, 513, 769, 1025, 1537, 2049, 3073, 4097, 6145, 8193, 12289, 16385, 24577}
	farBits    = []int{0, 0, 0, 0, 1, 1, 2, 2, 3, 3, 4, 4, 5, 5, 6, 6, 7, 7, 8, 8, 9, 9, 10, 10, 11, 11, 12, 12, 13, 13}
)

func (m *model) symbols(symbols, distances *bits.Code) {
	m.t.Helper()
	b := &m.blocks[len(m.blocks)-1]
	for {
		symbol := m.word(symbols)
		if symbol == 256 {
			return
		}
		if symbol < 256 {
			m.plain = append(m.plain, byte(symbol))
			continue
		}
		if symbol > 285 {
			m.t.Fatal("no such length")
		}
		x := match{length: lengthBase[symbol-257] + m.number(lengthBits[symbol-257])}
		if symbol == 284 && x.length == 258 {
			m.t.Fatal("the longest match is not told by its own symbol")
		}
		far := m.word(distances)
		if far > 29 {
			m.t.Fatal("no such distance")
		}
		x.distance = farBase[far] + m.number(farBits[far])
		if x.distance > len(m.plain) {
			m.t.Fatal("a distance of", x.distance, "where", len(m.plain), "are")
		}
		for range x.length {
			m.plain = append(m.plain, m.plain[len(m.plain)-x.distance])
		}
		b.matches = append(b.matches, x)
	}
}

// ofWay tells whether blocks are as P7.1 says it of a way.
func (m *model) ofWay(way int) bool {
	switch way {
	case deflate.Stored:
		return !slices.ContainsFunc(m.blocks, func(b block) bool { return b.kind != 0 })
	case deflate.Fixed, deflate.Dynamic:
		return len(m.blocks) == 1 && m.blocks[0].kind == way
	}
	return true
}

// modelStored is P7.2, word for word.
func modelStored(plain []byte) []byte {
	var b []byte
	for {
		piece := plain[:min(65535, len(plain))]
		plain = plain[len(piece):]
		last := byte(0)
		if len(plain) == 0 {
			last = 1
		}
		n := len(piece)
		b = append(b, last, byte(n), byte(n>>8), ^byte(n), ^byte(n>>8))
		b = append(b, piece...)
		if last == 1 {
			return b
		}
	}
}

// other is what another reader of the standard reads.
func other(b []byte) ([]byte, error) {
	return io.ReadAll(flate.NewReader(bytes.NewReader(b)))
}

// spare is bytes with marked room behind them, and a look whether all are as they were.
func spare(t *testing.T, b []byte) ([]byte, func()) {
	t.Helper()
	whole := append(slices.Clone(b), "mark"...)
	before := slices.Clone(whole)
	return whole[:len(b)], func() {
		t.Helper()
		if !bytes.Equal(whole, before) {
			t.Fatalf("an argument was changed: %s, not %s", short(whole), short(before))
		}
	}
}

// spoil overwrites a list, its spare room too.
func spoil(b []byte) {
	b = b[:cap(b)]
	for i := range b {
		b[i] ^= 0xa5
	}
}

// short is bytes as a test tells of them.
func short(b []byte) string {
	return fmt.Sprintf("[%x, %d bytes]", b[:min(60, len(b))], len(b))
}

// noise is bytes in which nothing is said twice for long.
func noise(seed int64, n int) []byte {
	b := make([]byte, n)
	rand.New(rand.NewSource(seed)).Read(b)
	return b
}

// letters is bytes by chance of the first few values.
func letters(seed int64, n, few int) []byte {
	r := rand.New(rand.NewSource(seed))
	b := make([]byte, n)
	for i := range b {
		b[i] = byte(r.Intn(few))
	}
	return b
}

// over is a text said over and over, n bytes in all.
func over(text []byte, n int) []byte {
	return bytes.Repeat(text, n/len(text)+1)[:n]
}

// mixed is pieces of each kind, one behind the other: noise, runs of a byte, few letters, and what stood before.
func mixed(r *rand.Rand, n int) []byte {
	b := make([]byte, 0, n+600)
	for len(b) < n {
		size := 1 + r.Intn(1+r.Intn(600))
		switch r.Intn(5) {
		case 0:
			b = append(b, noise(r.Int63(), size)...)
		case 1:
			b = append(b, bytes.Repeat([]byte{byte(r.Intn(256))}, size)...)
		case 2:
			b = append(b, letters(r.Int63(), size, 1+r.Intn(20))...)
		default:
			if len(b) > 0 {
				from := len(b) - 1 - r.Intn(min(len(b), 1+r.Intn(40000)))
				b = append(b, b[from:min(len(b), from+size)]...)
			}
		}
	}
	return b[:n]
}
