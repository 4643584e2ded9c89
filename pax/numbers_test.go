package pax_test

import (
	"math"
	"math/rand"
	"strconv"
	"strings"
	"testing"

	"satchel/api"
	"satchel/pax"
)

// P14.4: decimal digits alone, zeros ahead among them, up to 2^63 - 1.
func TestNumber(t *testing.T) {
	many := strings.Repeat("0", 100000)
	for _, x := range []struct {
		text string
		n    int64
		why  api.Errno
	}{
		{"0", 0, api.OK},
		{"7", 7, api.OK},
		{"007", 7, api.OK},
		{"000", 0, api.OK},
		{"1234567890", 1234567890, api.OK},
		{"9223372036854775806", math.MaxInt64 - 1, api.OK},
		{"9223372036854775807", math.MaxInt64, api.OK},
		{"0009223372036854775807", math.MaxInt64, api.OK},
		{many + "5", 5, api.OK},
		{"9223372036854775808", 0, api.ErrBig},
		{"0009223372036854775808", 0, api.ErrBig},
		{"9999999999999999999", 0, api.ErrBig},
		{"10000000000000000000", 0, api.ErrBig},
		{"18446744073709551615", 0, api.ErrBig},
		{"18446744073709551616", 0, api.ErrBig},
		{"18446744073709551623", 0, api.ErrBig},
		{"1" + many, 0, api.ErrBig},
		{"", 0, api.ErrDigit},
		{" ", 0, api.ErrDigit},
		{" 7", 0, api.ErrDigit},
		{"7 ", 0, api.ErrDigit},
		{"7\n", 0, api.ErrDigit},
		{"+7", 0, api.ErrDigit},
		{"-7", 0, api.ErrDigit},
		{"-0", 0, api.ErrDigit},
		{"7.", 0, api.ErrDigit},
		{"7.5", 0, api.ErrDigit},
		{"0x7", 0, api.ErrDigit},
		{"1_000", 0, api.ErrDigit},
		{"1e3", 0, api.ErrDigit},
		{"٣", 0, api.ErrDigit},
		{"\x00", 0, api.ErrDigit},
		{"7\x00", 0, api.ErrDigit},
		{"9223372036854775808x", 0, api.ErrDigit}, // ahead of ErrBig
		{"x9223372036854775808", 0, api.ErrDigit},
		{"9223372036854775808 ", 0, api.ErrDigit},
		{"1" + many + "/", 0, api.ErrDigit},
	} {
		if n, why := heldNumber(t, x.text); n != x.n || why != x.why {
			t.Errorf("Number(%.99q): %d %d", x.text, n, why)
		}
	}
}

// P14.4: every byte as a digit, alone, at either end and within.
func TestNumberBytes(t *testing.T) {
	for c := range 256 {
		s := string([]byte{byte(c)})
		for _, text := range []string{s, s + "1", "1" + s, "1" + s + "2"} {
			if _, why := heldNumber(t, text); (why == api.OK) != ('0' <= c && c <= '9') {
				t.Errorf("Number(%q): %d", text, why)
			}
		}
	}
}

// P14.4: digits without zeros ahead, and back.
func TestPutNumber(t *testing.T) {
	for n, want := range map[int64]string{0: "0", 1: "1", 9: "9", 10: "10", 1024: "1024", math.MaxInt64: "9223372036854775807"} {
		if s, why := pax.PutNumber(n); s != want || why != api.OK {
			t.Errorf("PutNumber(%d): %q %d", n, s, why)
		}
	}
	for _, n := range []int64{-1, -2, -10, math.MinInt64 + 1, math.MinInt64} {
		if s, why := pax.PutNumber(n); s != "" || why != api.ErrArg {
			t.Errorf("PutNumber(%d): %q %d", n, s, why)
		}
	}
	r := rand.New(rand.NewSource(144))
	for range 20000 {
		n := int64(r.Uint64() >> (1 + r.Intn(63)))
		s, why := pax.PutNumber(n)
		if why != api.OK || s != strconv.FormatInt(n, 10) {
			t.Fatalf("PutNumber(%d): %q %d", n, s, why)
		}
		if again, why := heldNumber(t, s); again != n || why != api.OK {
			t.Fatalf("Number(%q): %d %d", s, again, why)
		}
	}
}

// P14.4: numbers around 2^63 - 1 and texts of about as many digits.
func TestNumberGreat(t *testing.T) {
	r := rand.New(rand.NewSource(145))
	seen := map[api.Errno]int{}
	for range 20000 {
		s := strings.Repeat("0", r.Intn(3)) + "922337203685477580"
		for range r.Intn(3) {
			s += strconv.Itoa(r.Intn(10))
		}
		_, why := heldNumber(t, s)
		seen[why]++
	}
	if seen[api.OK] < 1000 || seen[api.ErrBig] < 1000 {
		t.Error(seen)
	}
}
