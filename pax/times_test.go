package pax_test

import (
	"math"
	"math/rand"
	"strconv"
	"strings"
	"testing"

	"satchel/api"
	"satchel/pax"
)

// P14.5: the greatest whole number that is not above the text's, cut to nine digits, and the nanoseconds above it.
func TestTime(t *testing.T) {
	many := strings.Repeat("0", 100000)
	for _, x := range []struct {
		text    string
		seconds int64
		nano    int32
		why     api.Errno
	}{
		{"0", 0, 0, api.OK},
		{"-0", 0, 0, api.OK},
		{"0.", 0, 0, api.OK},
		{"-0.", 0, 0, api.OK},
		{"-0.0", 0, 0, api.OK},
		{"7", 7, 0, api.OK},
		{"7.", 7, 0, api.OK},
		{"007", 7, 0, api.OK},
		{"-3", -3, 0, api.OK},
		{"-3.", -3, 0, api.OK},
		{"-003.000", -3, 0, api.OK},
		{"1.5", 1, 500000000, api.OK},
		{"-1.5", -2, 500000000, api.OK},
		{"-0.5", -1, 500000000, api.OK},
		{"1.000000001", 1, 1, api.OK},
		{"-1.000000001", -2, 999999999, api.OK},
		{"1.999999999", 1, 999999999, api.OK},
		{"-1.999999999", -2, 1, api.OK},
		{"1.123456789", 1, 123456789, api.OK},
		{"1.1234567899", 1, 123456789, api.OK},
		{"1.0000000009", 1, 0, api.OK},
		{"1.9999999999", 1, 999999999, api.OK},
		{"-1.1234567899", -2, 876543211, api.OK},
		{"-0.0000000001", 0, 0, api.OK},
		{"-1.0000000009", -1, 0, api.OK},
		{"-1.9999999999", -2, 1, api.OK},
		{many + "1." + many + "1", 1, 0, api.OK},
		{"-1.5" + many, -2, 500000000, api.OK},
		{"9223372036854775807", math.MaxInt64, 0, api.OK},
		{"9223372036854775807.999999999", math.MaxInt64, 999999999, api.OK},
		{"9223372036854775807.9999999999", math.MaxInt64, 999999999, api.OK},
		{"-9223372036854775807", -math.MaxInt64, 0, api.OK},
		{"-9223372036854775807.0000000001", -math.MaxInt64, 0, api.OK},
		{"-9223372036854775807.000000001", math.MinInt64, 999999999, api.OK},
		{"-9223372036854775807.5", math.MinInt64, 500000000, api.OK},
		{"-9223372036854775807.999999999", math.MinInt64, 1, api.OK},
		{"-0009223372036854775806.5", -math.MaxInt64, 500000000, api.OK},
		{"9223372036854775808", 0, 0, api.ErrBig},
		{"9223372036854775808.5", 0, 0, api.ErrBig},
		{"-9223372036854775808", 0, 0, api.ErrBig},
		{"-9223372036854775808.", 0, 0, api.ErrBig},
		{"-9223372036854775808.5", 0, 0, api.ErrBig},
		{"-18446744073709551616", 0, 0, api.ErrBig},
		{"1" + many + ".5", 0, 0, api.ErrBig},
		{"", 0, 0, api.ErrDigit},
		{"-", 0, 0, api.ErrDigit},
		{".", 0, 0, api.ErrDigit},
		{"-.", 0, 0, api.ErrDigit},
		{".5", 0, 0, api.ErrDigit},
		{"-.5", 0, 0, api.ErrDigit},
		{"+1", 0, 0, api.ErrDigit},
		{"--1", 0, 0, api.ErrDigit},
		{"1-", 0, 0, api.ErrDigit},
		{"1.-5", 0, 0, api.ErrDigit},
		{"1.+5", 0, 0, api.ErrDigit},
		{"1..5", 0, 0, api.ErrDigit},
		{"1.5.", 0, 0, api.ErrDigit},
		{"1.5.5", 0, 0, api.ErrDigit},
		{"1,5", 0, 0, api.ErrDigit},
		{"1e5", 0, 0, api.ErrDigit},
		{"1.5e5", 0, 0, api.ErrDigit},
		{" 1", 0, 0, api.ErrDigit},
		{"1 ", 0, 0, api.ErrDigit},
		{"1.5 ", 0, 0, api.ErrDigit},
		{"1.5\n", 0, 0, api.ErrDigit},
		{"1.\x00", 0, 0, api.ErrDigit},
		{"1.1234567890x", 0, 0, api.ErrDigit}, // where the digits are left out
		{"1.1234567890 ", 0, 0, api.ErrDigit},
		{"1._5", 0, 0, api.ErrDigit},
		{"9223372036854775808x", 0, 0, api.ErrDigit}, // ahead of ErrBig
		{"9223372036854775808.x", 0, 0, api.ErrDigit},
		{"-9223372036854775808.5.", 0, 0, api.ErrDigit},
		{"1" + many + ".1234567890x", 0, 0, api.ErrDigit},
	} {
		if seconds, nano, why := heldTime(t, x.text); seconds != x.seconds || nano != x.nano || why != x.why {
			t.Errorf("Time(%.99q): %d %d %d", x.text, seconds, nano, why)
		}
	}
}

// P14.5: all short texts of the bytes that matter.
func TestTimeAll(t *testing.T) {
	t.Parallel()
	seen := map[api.Errno]int{}
	for _, text := range allTexts("-.019 ", 6) {
		_, _, why := heldTime(t, text)
		seen[why]++
		heldTime(t, "-9223372036854775807"+text)
		heldTime(t, text+"9223372036854775808")
		heldTime(t, "-1.0000000"+text)
	}
	if seen[api.OK] < 1000 || seen[api.ErrDigit] < 1000 {
		t.Error(seen)
	}
}

// P14.5: every byte at each place of a time's text.
func TestTimeBytes(t *testing.T) {
	const text = "-12.1234567890123"
	for i := range len(text) {
		for c := range 256 {
			b := []byte(text)
			b[i] = byte(c)
			heldTime(t, string(b))
		}
	}
}

// P14.5: a minus, the whole part, the rest without the zeros at its end.
func TestPutTime(t *testing.T) {
	for _, x := range []struct {
		seconds int64
		nano    int32
		text    string
	}{
		{0, 0, "0"},
		{3, 0, "3"},
		{-1, 0, "-1"},
		{-3, 0, "-3"},
		{0, 5, "0.000000005"},
		{0, 50, "0.00000005"},
		{0, 500000000, "0.5"},
		{0, 999999999, "0.999999999"},
		{0, 100000001, "0.100000001"},
		{10, 100000000, "10.1"},
		{-1, 1, "-0.999999999"},
		{-1, 500000000, "-0.5"},
		{-1, 999999999, "-0.000000001"},
		{-2, 500000000, "-1.5"},
		{-2, 999999999, "-1.000000001"},
		{-10, 500000000, "-9.5"},
		{-11, 990000000, "-10.01"},
		{math.MaxInt64, 0, "9223372036854775807"},
		{math.MaxInt64, 999999999, "9223372036854775807.999999999"},
		{math.MinInt64, 0, "-9223372036854775808"},
		{math.MinInt64, 1, "-9223372036854775807.999999999"},
		{math.MinInt64, 999999999, "-9223372036854775807.000000001"},
		{math.MinInt64 + 1, 0, "-9223372036854775807"},
		{math.MinInt64 + 1, 500000000, "-9223372036854775806.5"},
	} {
		if s, why := heldPutTime(t, x.seconds, x.nano); s != x.text || why != api.OK {
			t.Errorf("PutTime(%d, %d): %q %d", x.seconds, x.nano, s, why)
		}
	}
	for _, seconds := range []int64{0, 1, -1, math.MinInt64, math.MaxInt64} {
		for _, nano := range []int32{-1, -500000000, -1000000000, math.MinInt32, 1000000000, 1000000001, math.MaxInt32} {
			if s, why := heldPutTime(t, seconds, nano); s != "" || why != api.ErrArg {
				t.Errorf("PutTime(%d, %d): %q %d", seconds, nano, s, why)
			}
		}
	}
}

// chanceTime is a time by chance, often one at an edge.
func chanceTime(r *rand.Rand) (int64, int32) {
	seconds := int64(r.Uint64()) >> r.Intn(64)
	if r.Intn(4) == 0 {
		seconds = []int64{math.MinInt64, math.MinInt64 + 1, -1, 0, 1, math.MaxInt64}[r.Intn(6)]
	}
	nano := r.Int31n(int32(pow10(r.Intn(10)))) // at most nine digits
	if r.Intn(4) == 0 {
		nano = nano / int32(pow10(r.Intn(9))) * int32(pow10(r.Intn(9)))
	}
	if nano < 0 || nano > 999999999 {
		nano = 0
	}
	return seconds, nano
}

// P14.8: Time of what PutTime makes is the time, but for -2^63 without a rest.
func TestTimesBack(t *testing.T) {
	t.Parallel()
	r := rand.New(rand.NewSource(148))
	refused := 0
	for range 60000 {
		seconds, nano := chanceTime(r)
		s, why := heldPutTime(t, seconds, nano)
		if why != api.OK {
			t.Fatalf("PutTime(%d, %d): %d", seconds, nano, why)
		}
		x, y, why := heldTime(t, s)
		if seconds == math.MinInt64 && nano == 0 {
			refused++
			if x != 0 || y != 0 || why != api.ErrBig {
				t.Fatalf("Time(%q): %d %d %d", s, x, y, why)
			}
		} else if x != seconds || y != nano || why != api.OK {
			t.Fatalf("Time(%q): %d %d %d, not %d %d", s, x, y, why, seconds, nano)
		}
	}
	if refused < 10 {
		t.Error(refused)
	}
}

// P14.8: PutTime of what Time reads says the text's number, cut to nine digits.
func TestTextsBack(t *testing.T) {
	t.Parallel()
	r := rand.New(rand.NewSource(149))
	for range 60000 {
		text := []string{"", "-"}[r.Intn(2)] + strings.Repeat("0", r.Intn(3)) + strconv.FormatInt(int64(r.Uint64()>>1)>>r.Intn(63), 10)
		if r.Intn(4) > 0 {
			text += "."
			for range r.Intn(14) {
				text += strconv.Itoa(r.Intn(10) * r.Intn(2))
			}
		}
		seconds, nano, why := heldTime(t, text)
		if why != api.OK {
			t.Fatalf("Time(%q): %d", text, why)
		}
		s, why := pax.PutTime(seconds, nano)
		said, ok := nanoseconds(s)
		if want, _ := nanoseconds(text); why != api.OK || !ok || said.Cmp(want) != 0 {
			t.Fatalf("PutTime(Time(%q)): %q %d", text, s, why)
		}
	}
}
