package field_test

import (
	"bytes"
	"math"
	"math/big"
	"math/rand"
	"testing"

	"satchel/api"
	"satchel/field"
)

// P12.1: Binary, at the chapter's examples, and of fields of none to nine bytes.
func TestBinary(t *testing.T) {
	heldReadings(t, "Binary", field.Binary, []reading{
		{"\x80\x00\x01", 1, api.OK},
		{"\xff\xff", -1, api.OK},
		{"\xc0\x00", -16384, api.OK},

		{"", 0, api.ErrDigit},
		{"\x80", 0, api.ErrDigit},
		{"\xff", 0, api.ErrDigit},
		{"\x00", 0, api.ErrDigit},
		{"\x00\x01", 0, api.ErrDigit},
		{"\x7f\xff", 0, api.ErrDigit},
		{"\x7f\xff\xff\xff\xff\xff\xff\xff\xff\xff\xff\xff", 0, api.ErrDigit},
		{"0000644\x00", 0, api.ErrDigit},

		{"\x80\x00", 0, api.OK},
		{"\x80\x01", 1, api.OK},
		{"\x80\xff", 255, api.OK},
		{"\x81\x00", 256, api.OK},
		{"\xbf\xff", 16383, api.OK},
		{"\xc0\x01", -16383, api.OK},
		{"\xfe\xff", -257, api.OK},
		{"\xff\x00", -256, api.OK},
		{"\xff\xfe", -2, api.OK},

		{"\xbf\xff\xff\xff\xff\xff\xff\xff", 1<<62 - 1, api.OK},
		{"\xc0\x00\x00\x00\x00\x00\x00\x00", -1 << 62, api.OK},
		{"\x80\x7f\xff\xff\xff\xff\xff\xff\xff", math.MaxInt64, api.OK},
		{"\x80\x80\x00\x00\x00\x00\x00\x00\x00", 0, api.ErrBig},
		{"\xff\x80\x00\x00\x00\x00\x00\x00\x00", math.MinInt64, api.OK},
		{"\xff\x7f\xff\xff\xff\xff\xff\xff\xff", 0, api.ErrBig},
		{"\x81\x00\x00\x00\x00\x00\x00\x00\x00", 0, api.ErrBig},
		{"\xfe\xff\xff\xff\xff\xff\xff\xff\xff", 0, api.ErrBig},
		{"\xbf\x00\x00\x00\x00\x00\x00\x00\x00", 0, api.ErrBig},
		{"\xc0\x00\x00\x00\x00\x00\x00\x00\x00", 0, api.ErrBig},
		{"\xc0\xff\xff\xff\xff\xff\xff\xff\xff", 0, api.ErrBig},
	})
}

// P12.1: the numbers that the document names, and those beside them, in fields of 2 to 20 bytes and of a record's width.
func TestBinaryEdges(t *testing.T) {
	low, high := big.NewInt(math.MinInt64), big.NewInt(math.MaxInt64)
	for _, width := range append(upTo(2, 20), 64, 511, 512, 513) {
		edge := power(8*width - 2)
		for _, n := range []*big.Int{
			low, plus(low, -1), plus(low, 1),
			high, plus(high, 1), plus(high, -1),
			big.NewInt(-1), big.NewInt(0), big.NewInt(1),
			plus(edge, -1), new(big.Int).Neg(edge),
			power(64), plus(power(64), 1), plus(power(64), -1),
			new(big.Int).Neg(power(64)), plus(new(big.Int).Neg(power(64)), 1), plus(new(big.Int).Neg(power(64)), -1),
		} {
			b, ok := binaryOf(n, width)
			if !ok {
				continue
			}
			want, why := within(n)
			if got, err := field.Binary(b); got != want || err != why {
				t.Errorf("Binary(%x), %s: %d %d", b, n, got, err)
			}
			heldRead(t, b)
		}
	}
}

// P12.1: many bytes of sign ahead, and one among them that is not.
func TestBinarySigns(t *testing.T) {
	for _, width := range []int{9, 10, 12, 20, 512} {
		for _, first := range []int64{0, -1, 1, math.MaxInt64, math.MinInt64} {
			b, _ := binaryOf(big.NewInt(first), width)
			if n, why := heldRead(t, b); n != first || why != api.OK {
				t.Fatalf("%x: %d %d", b, n, why)
			}
			for at := range width {
				for _, turn := range []byte{1, 64, 127, 128, 255} {
					other := bytes.Clone(b)
					other[at] ^= turn
					_, why := heldRead(t, other)
					if at > 0 && at < width-8 && why != api.ErrBig {
						t.Fatalf("%x: %d", other, why)
					}
				}
			}
		}
	}
}

// P12.1, P12.2: all fields of two and of three bytes; each number has one alone.
func TestBinaryAll(t *testing.T) {
	t.Parallel()
	for bits := 1 << 15; bits < 1<<16; bits++ {
		heldBinary(t, []byte{byte(bits >> 8), byte(bits)})
	}
	for bits := 1 << 23; bits < 1<<24; bits++ {
		heldBinary(t, []byte{byte(bits >> 16), byte(bits >> 8), byte(bits)})
	}
}

// heldBinary holds a field that has a number of few bytes to the model, there and back.
func heldBinary(t *testing.T, b []byte) {
	t.Helper()
	n, why := field.Binary(b)
	if want, err := modelBinary(b); n != want || why != err || why != api.OK {
		t.Fatalf("Binary(%x): %d %d", b, n, why)
	}
	if again, why := field.PutBinary(n, len(b)); !bytes.Equal(again, b) || why != api.OK {
		t.Fatalf("PutBinary(%d): %x %d, not %x", n, again, why, b)
	}
}

// P12.1: Number takes the one of the two that the first byte says, also where that one refuses it.
func TestNumber(t *testing.T) {
	heldReadings(t, "Number", field.Number, []reading{
		{"", 0, api.OK},
		{"0000644\x00", 420, api.OK},
		{" 12 \x00", 10, api.OK},
		{"\x80\x00\x01", 1, api.OK},
		{"\xff\xff", -1, api.OK},
		{"\x80", 0, api.ErrDigit},
		{"\xff", 0, api.ErrDigit},
		{"\x7f", 0, api.ErrDigit},
		{"0\x80", 0, api.ErrDigit},
		{" \x80\x00", 0, api.ErrDigit},
		{over, 0, api.ErrBig},
		{"\x80\x80\x00\x00\x00\x00\x00\x00\x00", 0, api.ErrBig},
		{"\xb1\xb2", 0x31b2, api.OK},
	})
}

// P12.1: bytes by chance, most of them binary fields, many with bytes of sign ahead.
func TestBinaryChance(t *testing.T) {
	t.Parallel()
	r := rand.New(rand.NewSource(12))
	seen := make(map[api.Errno]int)
	for range 40000 {
		b := bytes.Repeat([]byte{[]byte{0, 255}[r.Intn(2)]}, r.Intn(12))
		b = append(b, noise(r, r.Intn(12))...)
		if len(b) > 0 && r.Intn(8) > 0 {
			b[0] |= 128
		}
		_, why := heldRead(t, b)
		seen[why]++
	}
	for _, why := range []api.Errno{api.OK, api.ErrDigit, api.ErrBig} {
		if seen[why] < 1000 {
			t.Errorf("%d times %d", seen[why], why)
		}
	}
}

// upTo are the numbers from the first to the last.
func upTo(first, last int) []int {
	var l []int
	for i := first; i <= last; i++ {
		l = append(l, i)
	}
	return l
}
