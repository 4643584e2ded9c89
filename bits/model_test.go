package bits_test

import (
	"cmp"
	"math/big"
	"math/rand"
	"slices"
	"strings"
	"testing"

	"satchel/api"
	"satchel/bits"
)

// The model has bits as a text of 0 and 1, in the order in which they are read.

// rowOf is the bits of bytes.
func rowOf(b []byte) string {
	var row strings.Builder
	for _, x := range b {
		for range 8 {
			row.WriteByte('0' + x%2)
			x /= 2
		}
	}
	return row.String()
}

// bytesOf is the bytes of bits, the last one filled up.
func bytesOf(row string) []byte {
	var b []byte
	for i, x := range row {
		if i%8 == 0 {
			b = append(b, 0)
		}
		if x == '1' {
			b[i/8] += 1 << (i % 8)
		}
	}
	return b
}

// numberOf is bits as a number, the first one with the weight 1.
func numberOf(row string) uint32 {
	var v uint32
	for i, x := range row {
		if x == '1' {
			v += 1 << i
		}
	}
	return v
}

// bitsOf is the n bits of a number, the one of the weight 1 first.
func bitsOf(v uint32, n int) string {
	var row strings.Builder
	for range n {
		row.WriteByte(byte('0' + v%2))
		v /= 2
	}
	return row.String()
}

// modelReader is P5.1, word for word; left is the bits that are left, which end where a byte ends.
type modelReader struct{ left string }

func (r *modelReader) take(n int) (uint32, api.Errno) {
	if n < 0 || n > 32 {
		return 0, api.ErrArg
	}
	if len(r.left) < n {
		return 0, api.ErrBits
	}
	v := numberOf(r.left[:n])
	r.left = r.left[n:]
	return v, api.OK
}

func (r *modelReader) align() {
	r.left = r.left[len(r.left)%8:]
}

func (r *modelReader) bytes(n int) ([]byte, api.Errno) {
	r.align()
	if n < 0 {
		return nil, api.ErrArg
	}
	if len(r.left)/8 < n {
		return nil, api.ErrBits
	}
	b := bytesOf(r.left[:8*n])
	r.left = r.left[8*n:]
	return b, api.OK
}

// modelWriter is P5.2, word for word.
type modelWriter struct{ row string }

func (w *modelWriter) put(v uint32, n int) api.Errno {
	if n < 0 || n > 32 || new(big.Int).SetUint64(uint64(v)).BitLen() > n {
		return api.ErrArg
	}
	w.row += bitsOf(v, n)
	return api.OK
}

func (w *modelWriter) align() {
	for len(w.row)%8 != 0 {
		w.row += "0"
	}
}

func (w *modelWriter) add(b []byte) {
	w.align()
	w.row += rowOf(b)
}

// taken is the sum of 2^-length of all that are not 0.
func taken(lengths []int) *big.Rat {
	sum := new(big.Rat)
	for _, n := range lengths {
		if n != 0 {
			sum.Add(sum, big.NewRat(1, 1<<n))
		}
	}
	return sum
}

// isCode is section 5.2's rule.
func isCode(lengths []int) bool {
	if len(lengths) < 1 || len(lengths) > 320 || slices.Min(lengths) < 0 || slices.Max(lengths) > 15 || slices.Max(lengths) == 0 {
		return false
	}
	return taken(lengths).Cmp(big.NewRat(1, 1)) <= 0
}

// isWhole tells it of lengths that are a code.
func isWhole(lengths []int) bool {
	return taken(lengths).Cmp(big.NewRat(1, 1)) == 0
}

// modelWords is the words of lengths that are a code, as they are written; of a symbol without one the empty text.
func modelWords(lengths []int) []string {
	var order []int
	for symbol, n := range lengths {
		if n != 0 {
			order = append(order, symbol)
		}
	}
	slices.SortStableFunc(order, func(x, y int) int { return cmp.Compare(lengths[x], lengths[y]) })
	words := make([]string, len(lengths))
	number := 0
	for i, symbol := range order {
		n := lengths[symbol]
		if i > 0 {
			number++
			for range n - lengths[order[i-1]] {
				number *= 2
			}
		}
		text := big.NewInt(int64(number)).Text(2)
		if i == 0 {
			text = ""
		}
		words[symbol] = strings.Repeat("0", n-len(text)) + text
	}
	return words
}

// modelRead is P5.4, word for word: the symbol, how many bits are taken, the error.
func modelRead(words []string, left string) (int, int, api.Errno) {
	beginning := false
	for symbol, w := range words {
		if w == "" {
			continue
		}
		if strings.HasPrefix(left, w) {
			return symbol, len(w), api.OK
		}
		beginning = beginning || strings.HasPrefix(w, left)
	}
	if beginning {
		return 0, 0, api.ErrBits
	}
	return 0, 0, api.ErrSymbol
}

// at is a reader at which just these bits are left.
func at(t *testing.T, row string) *bits.Reader {
	t.Helper()
	ahead := (8 - len(row)%8) % 8
	r := bits.NewReader(bytesOf(strings.Repeat("1", ahead) + row))
	if _, why := r.Take(ahead); why != api.OK || r.Left() != len(row) {
		t.Fatalf("%d bits ahead of %d: %d, %d left", ahead, len(row), why, r.Left())
	}
	return r
}

// mustCode is NewCode of lengths that are a code.
func mustCode(t *testing.T, lengths []int) *bits.Code {
	t.Helper()
	c, why := bits.NewCode(lengths)
	if c == nil || why != api.OK {
		t.Fatalf("NewCode(%v): %v %d", lengths, c, why)
	}
	return c
}

// heldCode holds all that a code tells of itself against the model, and answers both.
func heldCode(t *testing.T, lengths []int) (*bits.Code, []string) {
	t.Helper()
	c := mustCode(t, lengths)
	if c.Whole() != isWhole(lengths) {
		t.Fatalf("Whole of %v: %v", lengths, c.Whole())
	}
	words := modelWords(lengths)
	for symbol, w := range words {
		want, wantWhy := api.Word{Bits: numberOf(w), N: len(w)}, api.OK
		if w == "" {
			wantWhy = api.ErrSymbol
		}
		if got, why := c.Word(symbol); got != want || why != wantWhy {
			t.Fatalf("%v: Word(%d): %v %d, not %v %d", lengths, symbol, got, why, want, wantWhy)
		}
	}
	return c, words
}

// heldRead holds one Read of these bits against the model.
func heldRead(t *testing.T, c *bits.Code, words []string, row string) (int, api.Errno) {
	t.Helper()
	symbol, n, wantWhy := modelRead(words, row)
	r := at(t, row)
	got, why := c.Read(r)
	if got != symbol || why != wantWhy || r.Left() != len(row)-n {
		t.Fatalf("Read of %s in %v: %d %d with %d left, not %d %d with %d", row, words, got, why, r.Left(), symbol, wantWhy, len(row)-n)
	}
	if why != api.OK {
		if rest, _ := r.Take(min(len(row), 32)); rest != numberOf(row[:min(len(row), 32)]) {
			t.Fatalf("Read of %s in %v: %d, and other bits behind it: %b", row, words, why, rest)
		}
	}
	return got, why
}

// randomLengths are a whole code of some symbols, in any order, some more without a word.
func randomLengths(r *rand.Rand, words, without int) []int {
	l := []int{0}
	for len(l) < words {
		if i := r.Intn(len(l)); l[i] < 15 {
			l[i]++
			l = append(l, l[i])
		}
	}
	if words == 1 {
		l[0] = 1
	}
	l = append(l, make([]int, without)...)
	r.Shuffle(len(l), func(i, j int) { l[i], l[j] = l[j], l[i] })
	return l
}

// spare is a copy of l with room behind it that is marked, and a way to see that nothing of it was changed.
func spare[E comparable](t *testing.T, l []E, mark E) ([]E, func()) {
	whole := append(slices.Clone(l), mark, mark, mark)
	before := slices.Clone(whole)
	return whole[:len(l)], func() {
		t.Helper()
		if !slices.Equal(whole, before) {
			t.Errorf("an argument was changed: %v, not %v", whole, before)
		}
	}
}

// spoil overwrites a list, its spare room too.
func spoil[E any](l []E, mark E) {
	l = l[:cap(l)]
	for i := range l {
		l[i] = mark
	}
}
