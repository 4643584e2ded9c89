package field_test

import (
	"bytes"
	"math"
	"math/rand"
	"strings"
	"testing"

	"satchel/api"
	"satchel/field"
)

// P12.2: the chapter's examples, and what just fits and just does not.
func TestPut(t *testing.T) {
	octal, binary, number := field.PutOctal, field.PutBinary, field.PutNumber
	for i, x := range []struct {
		call  func(int64, int) ([]byte, api.Errno)
		n     int64
		width int
		want  string
		why   api.Errno
	}{
		{binary, -1, 3, "\xff\xff\xff", api.OK},
		{number, 1 << 33, 12, "\x80\x00\x00\x00\x00\x00\x00\x02\x00\x00\x00\x00", api.OK},
		{binary, 1, 1, "", api.ErrArg},
		{binary, 16384, 2, "", api.ErrWide},

		{octal, 420, 8, "0000644\x00", api.OK},
		{octal, 0, 2, "0\x00", api.OK},
		{octal, 7, 2, "7\x00", api.OK},
		{octal, 8, 2, "", api.ErrWide},
		{octal, -1, 2, "", api.ErrWide},
		{octal, -1, 512, "", api.ErrWide},
		{octal, math.MinInt64, 512, "", api.ErrWide},
		{octal, 1<<21 - 1, 8, "7777777\x00", api.OK},
		{octal, 1 << 21, 8, "", api.ErrWide},
		{octal, 1<<33 - 1, 12, "77777777777\x00", api.OK},
		{octal, 1 << 33, 12, "", api.ErrWide},
		{octal, math.MaxInt64, 21, "", api.ErrWide},
		{octal, math.MaxInt64, 22, top + "\x00", api.OK},
		{octal, math.MaxInt64, 23, "0" + top + "\x00", api.OK},
		{octal, 0, 512, strings.Repeat("0", 511) + "\x00", api.OK},
		{octal, 1, 512, strings.Repeat("0", 510) + "1\x00", api.OK},

		{binary, 0, 2, "\x80\x00", api.OK},
		{binary, 16383, 2, "\xbf\xff", api.OK},
		{binary, -16384, 2, "\xc0\x00", api.OK},
		{binary, -16385, 2, "", api.ErrWide},
		{binary, 1<<62 - 1, 8, "\xbf\xff\xff\xff\xff\xff\xff\xff", api.OK},
		{binary, 1 << 62, 8, "", api.ErrWide},
		{binary, -1 << 62, 8, "\xc0\x00\x00\x00\x00\x00\x00\x00", api.OK},
		{binary, -1<<62 - 1, 8, "", api.ErrWide},
		{binary, math.MaxInt64, 8, "", api.ErrWide},
		{binary, math.MinInt64, 8, "", api.ErrWide},
		{binary, math.MaxInt64, 9, "\x80\x7f\xff\xff\xff\xff\xff\xff\xff", api.OK},
		{binary, math.MinInt64, 9, "\xff\x80\x00\x00\x00\x00\x00\x00\x00", api.OK},
		{binary, 0, 512, "\x80" + strings.Repeat("\x00", 511), api.OK},
		{binary, -1, 512, strings.Repeat("\xff", 512), api.OK},

		{number, 7, 2, "7\x00", api.OK},
		{number, 8, 2, "\x80\x08", api.OK},
		{number, -1, 2, "\xff\xff", api.OK},
		{number, 16384, 2, "", api.ErrWide},
		{number, 1<<33 - 1, 12, "77777777777\x00", api.OK},
		{number, -1, 12, strings.Repeat("\xff", 12), api.OK},
		{number, 1<<21 - 1, 8, "7777777\x00", api.OK},
		{number, 1 << 21, 8, "\x80\x00\x00\x00\x00\x20\x00\x00", api.OK},
		{number, 1 << 62, 8, "", api.ErrWide},
	} {
		if b, why := x.call(x.n, x.width); string(b) != x.want || why != x.why || why != api.OK && b != nil {
			t.Errorf("case %d, of %d in %d: %x %d", i, x.n, x.width, b, why)
		}
		heldPut(t, x.n, x.width)
	}
}

// P12.2: widths that can't be, whatever the number is, and those beside them.
func TestPutWidths(t *testing.T) {
	for _, n := range edges() {
		for _, width := range []int{math.MinInt, -512, -2, -1, 0, 1, 513, 514, 1024, math.MaxInt} {
			if why := heldPut(t, n, width); why != api.ErrArg {
				t.Errorf("%d in %d: %d", n, width, why)
			}
		}
		for _, width := range append(upTo(2, 25), 100, 511, 512) {
			if why := heldPut(t, n, width); why != api.OK && why != api.ErrWide {
				t.Errorf("%d in %d: %d", n, width, why)
			}
		}
	}
}

// P12.2: of each width the numbers at the edges of what fits.
func TestPutFits(t *testing.T) {
	for width := 2; width <= 8; width++ {
		for _, x := range []struct {
			n    int64
			fits bool
		}{
			{1<<(3*width-3) - 1, true},
			{1 << (3*width - 3), true}, // as a binary field
			{1<<(8*width-2) - 1, true},
			{1 << (8*width - 2), false},
			{-1 << (8*width - 2), true},
			{-1<<(8*width-2) - 1, false},
		} {
			if why := heldPut(t, x.n, width); (why == api.OK) != x.fits {
				t.Errorf("%d in %d: %d", x.n, width, why)
			}
		}
	}
	for width := 2; width <= 21; width++ {
		most := int64(1)<<(3*width-3) - 1
		if _, why := field.PutOctal(most, width); why != api.OK {
			t.Errorf("%o in %d: %d", most, width, why)
		}
		if _, why := field.PutOctal(most+1, width); why != api.ErrWide {
			t.Errorf("%o in %d: %d", most+1, width, why)
		}
	}
}

// P12.2: of two bytes all numbers that fit, and some that do not.
func TestPutSmall(t *testing.T) {
	for n := int64(-17000); n < 17000; n++ {
		fits := n >= -16384 && n < 16384
		if why := heldPut(t, n, 2); (why == api.OK) != fits {
			t.Fatalf("%d: %d", n, why)
		}
	}
}

// P12.5: each number fits from nine bytes on; of twelve those from 0 to 2^33 - 1 are octal, and no others.
func TestBack(t *testing.T) {
	t.Parallel()
	r := rand.New(rand.NewSource(12))
	numbers := edges()
	for range 5000 {
		numbers = append(numbers, int64(r.Uint64())>>r.Intn(64))
	}
	for _, n := range numbers {
		for _, width := range []int{9, 10, 12, 16, 9 + r.Intn(504)} {
			if why := heldPut(t, n, width); why != api.OK {
				t.Fatalf("%d in %d: %d", n, width, why)
			}
		}
		b, _ := field.PutNumber(n, 12)
		inOctal := b[0] < 128 && b[11] == 0 && len(bytes.Trim(b[:11], "01234567")) == 0
		if inOctal != (n >= 0 && n < 1<<33) {
			t.Fatalf("%d: %x", n, b)
		}
		heldPut(t, n, 2+r.Intn(8))
	}
}
