package bits_test

import (
	"math"
	"math/rand"
	"slices"
	"strings"
	"testing"

	"satchel/api"
	"satchel/bits"
)

// P5.3, P5.4: the chapter's second example.
func TestCodeExample(t *testing.T) {
	c, words := heldCode(t, []int{2, 1, 3, 3})
	if !slices.Equal(words, []string{"10", "0", "110", "111"}) || !c.Whole() {
		t.Error(words, c.Whole())
	}
	if w, why := c.Word(0); w != (api.Word{Bits: 1, N: 2}) || why != api.OK {
		t.Error(w, why)
	}
	if c, why := bits.NewCode([]int{1, 1, 1}); c != nil || why != api.ErrCode {
		t.Error(c, why)
	}
	c = mustCode(t, []int{2, 0})
	if c.Whole() {
		t.Error("whole")
	}
	if s, why := c.Read(at(t, "1")); s != 0 || why != api.ErrSymbol {
		t.Error(s, why)
	}
	if s, why := c.Read(at(t, "0")); s != 0 || why != api.ErrBits {
		t.Error(s, why)
	}
}

// P5.3: words as the standard of DEFLATE tells them (RFC 1951, 3.2.2 and 3.2.6).
func TestWordsOfTheStandard(t *testing.T) {
	if got := writtenWords(t, mustCode(t, []int{3, 3, 3, 3, 3, 2, 4, 4}), 8); !slices.Equal(got, []string{"010", "011", "100", "101", "110", "00", "1110", "1111"}) {
		t.Error(got)
	}
	lengths := slices.Concat(slices.Repeat([]int{8}, 144), slices.Repeat([]int{9}, 112), slices.Repeat([]int{7}, 24), slices.Repeat([]int{8}, 8))
	words := writtenWords(t, mustCode(t, lengths), len(lengths))
	for symbol, want := range map[int]string{0: "00110000", 143: "10111111", 144: "110010000", 255: "111111111", 256: "0000000", 279: "0010111", 280: "11000000", 287: "11000111"} {
		if words[symbol] != want {
			t.Errorf("%d: %s, not %s", symbol, words[symbol], want)
		}
	}
}

// P5.3: lengths that are a code or none, at the edges that the document names.
func TestNewCodeEdges(t *testing.T) {
	ones := func(n, length int) []int { return slices.Repeat([]int{length}, n) }
	deepest := []int{1, 2, 3, 4, 5, 6, 7, 8, 9, 10, 11, 12, 13, 14, 15, 15}
	for _, x := range []struct {
		name    string
		lengths []int
		whole   bool
		why     api.Errno
	}{
		{"none", nil, false, api.ErrCode},
		{"none, not nil", []int{}, false, api.ErrCode},
		{"one without a word", ones(1, 0), false, api.ErrCode},
		{"one of 1", ones(1, 1), false, api.OK},
		{"one of MaxCode", ones(1, api.MaxCode), false, api.OK},
		{"one above MaxCode", ones(1, api.MaxCode+1), false, api.ErrCode},
		{"below 0", ones(1, -1), false, api.ErrCode},
		{"below 0 behind a word", []int{1, -1}, false, api.ErrCode},
		{"far out", []int{1, math.MaxInt}, false, api.ErrCode},
		{"far below", []int{1, math.MinInt}, false, api.ErrCode},
		{"a length above 63", []int{1, 64}, false, api.ErrCode},
		{"all 0", ones(9, 0), false, api.ErrCode},
		{"MaxSyms, all 0", ones(api.MaxSyms, 0), false, api.ErrCode},
		{"two of 1", ones(2, 1), true, api.OK},
		{"three of 1", ones(3, 1), false, api.ErrCode},
		{"MaxSyms of 9", ones(api.MaxSyms, 9), false, api.OK},
		{"MaxSyms of 8", ones(api.MaxSyms, 8), false, api.ErrCode},
		{"MaxSyms of 1", ones(api.MaxSyms, 1), false, api.ErrCode},
		{"MaxSyms and one more", ones(api.MaxSyms+1, 9), false, api.ErrCode},
		{"MaxSyms and one more without a word", append(ones(api.MaxSyms, 9), 0), false, api.ErrCode},
		{"MaxSyms of MaxCode", ones(api.MaxSyms, api.MaxCode), false, api.OK},
		{"MaxSyms, 256 of 8", append(ones(256, 8), ones(64, 0)...), true, api.OK},
		{"MaxSyms, 257 of 8", append(ones(257, 8), ones(63, 0)...), false, api.ErrCode},
		{"every length", deepest, true, api.OK},
		{"every length, one word less", deepest[:15], false, api.OK},
		{"every length, one word too many", append(slices.Clone(deepest), 15), false, api.ErrCode},
		{"every length, a longer one too many", append(slices.Clone(deepest[:14]), 14, 15), false, api.ErrCode},
	} {
		c, why := bits.NewCode(x.lengths)
		if why != x.why || (c != nil) != (why == api.OK) {
			t.Errorf("%s: %v %d, not %d", x.name, c, why, x.why)
			continue
		}
		if (why == api.OK) != isCode(x.lengths) {
			t.Errorf("%s: the model says otherwise", x.name)
		}
		if c != nil {
			if heldCode(t, x.lengths); c.Whole() != x.whole {
				t.Errorf("%s: whole: %v", x.name, c.Whole())
			}
		}
	}
}

// P5.3: Word of a symbol below 0, of the last one, of the one behind it, and of one without a word.
func TestWordEdges(t *testing.T) {
	for _, lengths := range [][]int{{1}, {0, 0, 3}, {3, 0, 0}, {1, 0, 2, 2}, slices.Repeat([]int{9}, api.MaxSyms)} {
		c, _ := heldCode(t, lengths)
		for _, symbol := range []int{math.MinInt, -1, len(lengths), len(lengths) + 1, api.MaxSyms + 1, math.MaxInt} {
			if w, why := c.Word(symbol); w != (api.Word{}) || why != api.ErrArg {
				t.Errorf("%v: Word(%d): %v %d", lengths, symbol, w, why)
			}
		}
	}
}

// P5.3, P5.4, P5.7, P5.8: all lengths of up to four symbols, and of the codes among them every row of up to eight bits.
func TestAllSmallCodes(t *testing.T) {
	var rows []string
	for n := range 9 {
		for v := range 1 << n {
			rows = append(rows, bitsOf(uint32(v), n))
		}
	}
	for n := range 5 {
		lengths := slices.Repeat([]int{-1}, n)
		for more := true; more; more = turnOn(lengths, -1, 5) {
			if !isCode(lengths) {
				if c, why := bits.NewCode(lengths); c != nil || why != api.ErrCode {
					t.Fatalf("NewCode(%v): %v %d", lengths, c, why)
				}
				continue
			}
			c, words := heldCode(t, lengths)
			heldWords(t, words)
			for _, row := range rows {
				heldRead(t, c, words, row)
			}
		}
	}
}

// turnOn goes on to the next list of numbers from least to most; false behind the last one.
func turnOn(l []int, least, most int) bool {
	for i := range l {
		if l[i] < most {
			l[i]++
			return true
		}
		l[i] = least
	}
	return false
}

// heldWords holds words, as they are written, to P5.7 and P5.8.
func heldWords(t *testing.T, words []string) {
	t.Helper()
	for i, x := range words {
		for j, y := range words {
			if i == j || x == "" || y == "" {
				continue
			}
			if strings.HasPrefix(y, x) {
				t.Fatalf("%v: %d's word begins %d's", words, i, j)
			}
			if len(x) == len(y) && (i < j) != (x < y) {
				t.Fatalf("%v: of one length %d's and %d's do not rise", words, i, j)
			}
			if len(x) < len(y) && x >= y[:len(x)] {
				t.Fatalf("%v: %d's word is not below %d's", words, i, j)
			}
		}
	}
}

// writtenWords is the words that a code tells, as they are written.
func writtenWords(t *testing.T, c *bits.Code, symbols int) []string {
	t.Helper()
	l := make([]string, symbols)
	for symbol := range l {
		w, why := c.Word(symbol)
		if why != api.OK && why != api.ErrSymbol {
			t.Fatal(symbol, why)
		}
		l[symbol] = bitsOf(w.Bits, w.N)
	}
	return l
}

// P5.3, P5.4, P5.7, P5.8: codes of many symbols, whole and not, and every cut of each of their words.
func TestCodesAtRandom(t *testing.T) {
	random := rand.New(rand.NewSource(53))
	for i := range 200 {
		lengths := randomLengths(random, 1+random.Intn(40), random.Intn(9))
		if i < 3 {
			lengths = randomLengths(random, 320, 0)
		}
		if random.Intn(2) == 0 {
			for range 1 + random.Intn(4) {
				lengths[random.Intn(len(lengths))] = 0
			}
		}
		if !isCode(lengths) {
			continue
		}
		c, words := heldCode(t, lengths)
		heldWords(t, writtenWords(t, c, len(lengths)))
		for symbol, w := range words {
			if w == "" {
				continue
			}
			for n := range len(w) {
				if s, why := heldRead(t, c, words, w[:n]); s != 0 || why != api.ErrBits {
					t.Fatalf("%v: Read of %s: %d %d", lengths, w[:n], s, why)
				}
			}
			for _, behind := range []string{"", "0", "1", "0111111111111111", "1000000000000000"} {
				if s, why := heldRead(t, c, words, w+behind); s != symbol || why != api.OK {
					t.Fatalf("%v: Read of %s: %d %d", lengths, w+behind, s, why)
				}
			}
		}
	}
}

// P5.4: bits that are no word, at every cut: as soon as they begin none it is ErrSymbol.
func TestReadOfNoWord(t *testing.T) {
	random := rand.New(rand.NewSource(54))
	for range 300 {
		lengths := randomLengths(random, 2+random.Intn(30), 2)
		lengths[slices.Index(lengths, slices.Max(lengths))] = 0
		if !isCode(lengths) {
			continue
		}
		c, words := heldCode(t, lengths)
		for _, row := range []string{strings.Repeat("1", 40), strings.Repeat("1", 14) + "01", strings.Repeat("1", 15) + "0"} {
			for n := range row {
				heldRead(t, c, words, row[:n])
			}
		}
		if s, why := c.Read(at(t, strings.Repeat("1", 15))); s != 0 || why != api.ErrSymbol {
			t.Fatalf("%v: Read of ones: %d %d", lengths, s, why)
		}
	}
	c, words := heldCode(t, []int{15})
	for n := range 16 {
		zeros := strings.Repeat("0", n)
		if s, why := heldRead(t, c, words, zeros+"1"); n < 15 && (s != 0 || why != api.ErrSymbol) {
			t.Errorf("Read of %s1: %d %d", zeros, s, why)
		}
		if s, why := heldRead(t, c, words, zeros); n < 15 && (s != 0 || why != api.ErrBits) {
			t.Errorf("Read of %s: %d %d", zeros, s, why)
		}
	}
}

// P5.6, P5.7: symbols written one behind the other by their words, with numbers between them, are read back.
func TestSymbolsBack(t *testing.T) {
	random := rand.New(rand.NewSource(57))
	for i := range 100 {
		lengths := randomLengths(random, 1+random.Intn(319), 1)
		if i%2 == 0 && len(lengths) > 3 {
			lengths[random.Intn(len(lengths))] = 0
		}
		if !isCode(lengths) {
			continue
		}
		c := mustCode(t, lengths)
		var w bits.Writer
		var said []int
		for range 500 {
			symbol := random.Intn(len(lengths))
			word, why := c.Word(symbol)
			if why != api.OK {
				continue
			}
			w.Put(word.Bits, word.N)
			w.Put(uint32(symbol%8), 3)
			said = append(said, symbol)
		}
		r := bits.NewReader(w.Done())
		for _, symbol := range said {
			if s, why := c.Read(r); s != symbol || why != api.OK {
				t.Fatalf("%v: %d %d, not %d", lengths, s, why, symbol)
			}
			if v, why := r.Take(3); v != uint32(symbol%8) || why != api.OK {
				t.Fatalf("%v: %d %d behind %d", lengths, v, why, symbol)
			}
		}
	}
}

// Memory: the lengths stay as they are, and the code does not keep them; two codes know nothing of one another.
func TestCodeMemory(t *testing.T) {
	lengths, unchanged := spare(t, []int{2, 1, 3, 3}, 9)
	c := mustCode(t, lengths)
	unchanged()
	spoil(lengths, 1)
	mustCode(t, []int{1, 2, 3, 3})
	if got := writtenWords(t, c, 4); !slices.Equal(got, []string{"10", "0", "110", "111"}) || !c.Whole() {
		t.Error(got, c.Whole())
	}
	if s, why := c.Read(at(t, "10")); s != 0 || why != api.OK {
		t.Error(s, why)
	}
	b, unchanged2 := spare(t, []byte{0b111011}, 9)
	r := bits.NewReader(b)
	for _, want := range []int{2, 3} {
		if s, why := c.Read(r); s != want || why != api.OK {
			t.Error(s, why, want)
		}
	}
	unchanged2()
}
