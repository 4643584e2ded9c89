package deflate_test

import (
	"bytes"
	"math/rand"
	"slices"
	"testing"

	"satchel/api"
	"satchel/deflate"
	"satchel/inflate"
)

// best is how many bytes the best way has, which is read back.
func best(t *testing.T, plain []byte) int {
	t.Helper()
	b, why := deflate.Encode(plain, deflate.Best)
	if why != api.OK {
		t.Fatal(why)
	}
	if got, n, why := inflate.Decode(b, len(plain)); why != api.OK || n != len(b) || !bytes.Equal(got, plain) {
		t.Fatalf("Decode of Encode of %s: %s %d %d", short(plain), short(got), n, why)
	}
	return len(b)
}

// P7.4: one and the same byte.
func TestSmallOfOneByte(t *testing.T) {
	t.Parallel()
	sizes := []int{257, 258, 259, 260, 261, 262, 300, 1000, 4096, 32768, 32769, 65535, 65536, 100000, 1 << 20, api.MaxBlock}
	for n := 64; n < 140; n++ {
		sizes = append(sizes, n)
	}
	for _, v := range []byte{0, 1, 143, 144, 255} {
		for _, n := range sizes {
			if n > 100000 && v > 0 {
				continue
			}
			if got := best(t, bytes.Repeat([]byte{v}, n)); got > 64+n/100 {
				t.Errorf("%d times %d: %d bytes", n, v, got)
			}
		}
	}
}

// saids are texts of w bytes that are hard to find again: many places in them have the same three bytes.
func saids(w int) [][]byte {
	l := [][]byte{noise(int64(w), w)}
	for _, few := range []int{1, 2, 3, 4, 16} {
		l = append(l, letters(int64(w), w, few))
	}
	// One other byte at the end, at the beginning, and at places that come ever less often.
	one := make([]byte, w)
	one[w-1] = 1
	l = append(l, one, append([]byte{1}, one[:w-1]...))
	steps := make([]byte, w)
	for at, step := 0, 1; at < w; at, step = at+step, step+1 {
		steps[at] = byte(step)
	}
	l = append(l, steps)
	// The same three bytes ever again, each time with another byte behind them.
	var threes []byte
	for i := range w {
		threes = append(threes, 'a', 'b', 'c', byte(i*7))
	}
	l = append(l, threes[:w])
	// Each time with what follows alike a byte longer, so that the nearest place is never the best one.
	var longer []byte
	for i := 0; len(longer) < w; i++ {
		longer = append(longer, 'x', 'y', 'z')
		longer = append(longer, noise(9, 40)[:i%40]...)
		longer = append(longer, byte(i))
	}
	x, y := []byte("a"), []byte("ab")
	for len(y) < w {
		x, y = y, append(slices.Clone(y), x...)
	}
	return append(l, longer[:w], y[:w])
}

// P7.4: texts of w bytes said over and over.
func TestSmallOfTexts(t *testing.T) {
	t.Parallel()
	r := rand.New(rand.NewSource(74))
	for _, w := range []int{4, 5, 6, 7, 31, 32, 100, 127, 128, 257, 258, 259, 500, 998, 999, 1000} {
		sizes := []int{64, 65, 66, 100, 127, w, w + 1, w + 2, w + 3, 2*w - 1, 2 * w, 2*w + 1, w + 258, w + 259, w + 260, 5 * w, 5*w + 3, 20000 + r.Intn(1000)}
		for i, text := range saids(w) {
			for _, n := range sizes {
				if got := best(t, over(text, n)); got > 2*w+n/50+200 {
					t.Errorf("text %d of %d bytes, %d bytes in all: %d bytes", i, w, n, got)
				}
			}
		}
	}
	for _, w := range []int{4, 1000} {
		for i, text := range saids(w) {
			if n := api.MaxBlock; i < 3 || w == 1000 && i%4 == 0 {
				if got := best(t, over(text, n)); got > 2*w+n/50+200 {
					t.Errorf("text %d of %d bytes, %d bytes in all: %d bytes", i, w, n, got)
				}
			}
		}
	}
}

// P7.4: texts that are said over and over, one text behind the other, come to no more than each of them alone may: the search for them does not wear out.
func TestSmallOfManyTexts(t *testing.T) {
	for _, w := range []int{4, 100, 1000} {
		var plain []byte
		for _, text := range saids(w) {
			plain = append(plain, over(text, 30*w)...)
		}
		if got, many := best(t, plain), len(saids(w)); got > many*(2*w+30*w/50+200) {
			t.Errorf("%d texts of %d bytes, %d bytes in all: %d bytes", many, w, len(plain), got)
		}
	}
}
