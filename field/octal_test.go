package field_test

import (
	"bytes"
	"math"
	"math/rand"
	"strings"
	"testing"

	"satchel/api"
	"satchel/field"
)

const (
	top  = "777777777777777777777"  // 2^63 - 1
	over = "1000000000000000000000" // 2^63
)

// P12.1: Octal, at the chapter's examples and the edges of what an octal field is.
func TestOctal(t *testing.T) {
	heldReadings(t, "Octal", field.Octal, []reading{
		{" 12 \x00", 10, api.OK},
		{"0000644\x00", 420, api.OK},
		{"8", 0, api.ErrDigit},
		{"1 2", 0, api.ErrDigit},
		{top, math.MaxInt64, api.OK},
		{over, 0, api.ErrBig},

		{"", 0, api.OK},
		{" ", 0, api.OK},
		{"\x00", 0, api.OK},
		{"0", 0, api.OK},
		{"        ", 0, api.OK},
		{"\x00\x00\x00\x00", 0, api.OK},
		{"00000000", 0, api.OK},
		{" \x00 \x00\x00 ", 0, api.OK},
		{"\x00 \x00 ", 0, api.OK},
		{"0 \x00", 0, api.OK},

		{"1", 1, api.OK},
		{"7", 7, api.OK},
		{"10", 8, api.OK},
		{"   17", 15, api.OK},
		{"17   ", 15, api.OK},
		{"17\x00\x00", 15, api.OK},
		{"17 \x00 \x00", 15, api.OK},
		{"17\x00 \x00 ", 15, api.OK},
		{"  17  ", 15, api.OK},
		{"01", 1, api.OK},

		{"1 2\x00", 0, api.ErrDigit},
		{"1\x002", 0, api.ErrDigit},
		{"1 \x00 2", 0, api.ErrDigit},
		{"\x0012", 0, api.ErrDigit},
		{" \x0012", 0, api.ErrDigit},
		{"\x00 12", 0, api.ErrDigit},
		{"12 \x008", 0, api.ErrDigit},
		{"12\x00 \x80", 0, api.ErrDigit},
		{"12\t", 0, api.ErrDigit},
		{"\t12", 0, api.ErrDigit},
		{"12\n", 0, api.ErrDigit},
		{"-1", 0, api.ErrDigit},
		{"+1", 0, api.ErrDigit},
		{"0x1", 0, api.ErrDigit},
		{"0o7", 0, api.ErrDigit},
		{"1_7", 0, api.ErrDigit},
		{"1.0", 0, api.ErrDigit},
		{"/", 0, api.ErrDigit},
		{"\xb1", 0, api.ErrDigit},
		{"\x80\x01", 0, api.ErrDigit},
		{"１", 0, api.ErrDigit}, // a digit of another script
		{"\u00a01", 0, api.ErrDigit},
	})
}

// P12.1: the greatest number and the ones beyond, whatever stands about the digits.
func TestOctalGreat(t *testing.T) {
	zeros := strings.Repeat("0", 600)
	for _, ahead := range []string{"", " ", "   ", "0", "  0", zeros, " " + zeros} {
		for _, behind := range []string{"", " ", "\x00", " \x00", "\x00 ", "\x00\x00\x00"} {
			for _, x := range []struct {
				digits string
				n      int64
				why    api.Errno
			}{
				{"1", 1, api.OK},
				{"777777777777777777776", math.MaxInt64 - 1, api.OK},
				{top, math.MaxInt64, api.OK},
				{over, 0, api.ErrBig},
				{"1000000000000000000001", 0, api.ErrBig},
				{"1777777777777777777777", 0, api.ErrBig},  // 2^64 - 1
				{"2000000000000000000000", 0, api.ErrBig},  // 2^64
				{"2000000000000000000001", 0, api.ErrBig},  // 2^64 + 1
				{"7777777777777777777777", 0, api.ErrBig},  // 2^66 - 1
				{"10000000000000000000000", 0, api.ErrBig}, // 2^66
				{"1" + zeros, 0, api.ErrBig},
				{"1" + zeros + "1", 0, api.ErrBig},
				{strings.Repeat("7", 600), 0, api.ErrBig},
			} {
				b := []byte(ahead + x.digits + behind)
				if n, why := field.Octal(b); n != x.n || why != x.why {
					t.Errorf("Octal(%.30q, %d bytes): %d %d", b, len(b), n, why)
				}
				heldRead(t, b)
			}
		}
	}
}

// P12.1: a byte that is no digit, at each place, is told ahead of a number that is too great.
func TestOctalFirst(t *testing.T) {
	for _, text := range []string{"  0017 \x00 ", "17", over, " " + over + "\x00", strings.Repeat("7", 40)} {
		for at := range len(text) {
			for x := range 256 {
				b := []byte(text)
				b[at] = byte(x)
				n, why := heldRead(t, b)
				if at > 0 && strings.IndexByte(" \x0001234567", byte(x)) < 0 && (n != 0 || why != api.ErrDigit) {
					t.Fatalf("%q: %d %d", b, n, why)
				}
			}
		}
		for at := range len(text) + 1 {
			for _, x := range []string{"8", "9", "/", "x", "\x80", "\xff"} {
				b := []byte(text[:at] + x + text[at:])
				if n, why := field.Octal(b); n != 0 || why != api.ErrDigit {
					t.Fatalf("Octal(%q): %d %d", b, n, why)
				}
				heldRead(t, b)
			}
		}
	}
}

// P12.1: all texts of few bytes that mean something, and all of two bytes.
func TestOctalAll(t *testing.T) {
	t.Parallel()
	for n := range 7 {
		for _, text := range all(" \x00017/8\x80", n) {
			heldRead(t, []byte(text))
		}
	}
	for first := range 256 {
		heldRead(t, []byte{byte(first)})
		for second := range 256 {
			heldRead(t, []byte{byte(first), byte(second)})
		}
	}
}

// P12.1: octal fields by chance, of up to a record's width, whole ones and some with a fault.
func TestOctalChance(t *testing.T) {
	t.Parallel()
	r := rand.New(rand.NewSource(12))
	seen := make(map[api.Errno]int)
	for range 40000 {
		b := bytes.Repeat([]byte(" "), r.Intn(4))
		b = append(b, bytes.Repeat([]byte("0"), r.Intn(3)*r.Intn(30))...)
		for range r.Intn(25) {
			b = append(b, '0'+byte(r.Intn(8)))
		}
		for range r.Intn(4) {
			b = append(b, " \x00"[r.Intn(2)])
		}
		if len(b) > 0 && r.Intn(4) == 0 {
			b[r.Intn(len(b))] = byte(r.Intn(256))
		}
		_, why := heldRead(t, b)
		seen[why]++
	}
	for _, why := range []api.Errno{api.OK, api.ErrDigit, api.ErrBig} {
		if seen[why] < 1000 {
			t.Errorf("%d times %d", seen[why], why)
		}
	}
}
