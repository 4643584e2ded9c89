package field_test

import (
	"math"
	"math/rand"
	"strings"
	"testing"

	"satchel/api"
	"satchel/field"
)

// P12.3: Text, with a zero first, in the middle, last, several and none.
func TestText(t *testing.T) {
	for _, x := range []struct{ b, want string }{
		{"", ""},
		{"\x00", ""},
		{"\x00\x00\x00", ""},
		{"\x00abc", ""},
		{"a\x00bc", "a"},
		{"ab\x00c\x00", "ab"},
		{"abc\x00", "abc"},
		{"abc", "abc"},
		{" a b \x00", " a b "},
		{"\xff\x80\x01\x00\xff", "\xff\x80\x01"},
		{"é\x00è", "é"},
		{strings.Repeat("n", 512), strings.Repeat("n", 512)},
		{strings.Repeat("n", 5000) + "\x00x", strings.Repeat("n", 5000)},
	} {
		in, unchanged := spare([]byte(x.b))
		if got := field.Text(in); got != x.want {
			t.Errorf("Text(%.40q): %.40q", x.b, got)
		}
		if !unchanged() {
			t.Errorf("Text(%.40q) changes what it is handed", x.b)
		}
	}
	if got := field.Text(nil); got != "" {
		t.Errorf("Text of nil: %q", got)
	}
}

// P12.3: what Text answers stays, whatever becomes of the bytes.
func TestTextOwn(t *testing.T) {
	for _, b := range []string{"abc", "abc\x00d"} {
		in := []byte(b)
		got := field.Text(in)
		spoil(in)
		if got != "abc" {
			t.Errorf("%q has become %q", b, got)
		}
	}
}

// P12.3: PutText at its edges, and which error comes first.
func TestPutText(t *testing.T) {
	long := strings.Repeat("x", 512)
	for _, x := range []struct {
		s     string
		width int
		want  string
		why   api.Errno
	}{
		{"abc", 3, "abc", api.OK},
		{"abc", 2, "", api.ErrWide},
		{"abc", 5, "abc\x00\x00", api.OK},
		{"", 1, "\x00", api.OK},
		{"", 4, "\x00\x00\x00\x00", api.OK},
		{"", 0, "", api.ErrArg},
		{"", -1, "", api.ErrArg},
		{"", 513, "", api.ErrArg},
		{"", math.MaxInt, "", api.ErrArg},
		{"", math.MinInt, "", api.ErrArg},
		{"", 512, strings.Repeat("\x00", 512), api.OK},
		{"a", 1, "a", api.OK},
		{"ab", 1, "", api.ErrWide},
		{"a", 0, "", api.ErrArg},
		{long, 512, long, api.OK},
		{long[1:], 512, long[1:] + "\x00", api.OK},
		{long + "x", 512, "", api.ErrWide},
		{long, 511, "", api.ErrWide},
		{long, 513, "", api.ErrArg},
		{long + "x", 513, "", api.ErrArg},
		{"\x00", 1, "", api.ErrArg},
		{"\x00abc", 9, "", api.ErrArg},
		{"a\x00bc", 9, "", api.ErrArg},
		{"abc\x00", 9, "", api.ErrArg},
		{"abc\x00", 3, "", api.ErrArg}, // that it does not fit is named behind it
		{"abc\x00", 2, "", api.ErrArg},
		{long + "\x00", 512, "", api.ErrArg},
		{"\x00", 0, "", api.ErrArg},
		{"\x01\x80\xff é", 8, "\x01\x80\xff é\x00\x00", api.OK},
	} {
		if b, why := field.PutText(x.s, x.width); string(b) != x.want || why != x.why || why != api.OK && b != nil {
			t.Errorf("PutText(%.40q, %d): %.40q %d", x.s, x.width, b, why)
		}
		heldPutText(t, x.s, x.width)
	}
}

// P12.3, P12.6: texts of each width about what just fits, and texts of few bytes that mean something.
func TestTextsBack(t *testing.T) {
	t.Parallel()
	r := rand.New(rand.NewSource(12))
	seen := make(map[api.Errno]int)
	for width := -1; width <= 514; width++ {
		for _, n := range []int{0, 1, width - 1, width, width + 1, r.Intn(600)} {
			b := noise(r, max(n, 0))
			for i := range b {
				b[i] = max(b[i], 1)
			}
			seen[heldPutText(t, string(b), width)]++
			if len(b) > 0 {
				b[r.Intn(len(b))] = 0
				if why := heldPutText(t, string(b), width); why != api.ErrArg {
					t.Fatalf("a byte 0 in %d bytes, %d wide: %d", len(b), width, why)
				}
			}
		}
	}
	for n := range 5 {
		for _, text := range all("\x00 /a\xff", n) {
			want, _, _ := strings.Cut(text, "\x00")
			if got := field.Text([]byte(text)); got != want {
				t.Fatalf("Text(%q): %q", text, got)
			}
			for width := range 7 {
				seen[heldPutText(t, text, width)]++
			}
		}
	}
	for _, why := range []api.Errno{api.OK, api.ErrArg, api.ErrWide} {
		if seen[why] < 500 {
			t.Errorf("%d times %d", seen[why], why)
		}
	}
}
