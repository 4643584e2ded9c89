package header_test

import (
	"fmt"
	"math/rand"
	"strings"
	"testing"

	"satchel/api"
	"satchel/field"
)

// zeros are so many.
func zeros(n int) string {
	return strings.Repeat("\x00", n)
}

// filled is a text with zeros behind it.
func filled(s string, width int) string {
	return s + zeros(width-len(s))
}

// whole is the record of those bytes.
func whole(t *testing.T, b string) [512]byte {
	t.Helper()
	if len(b) != 512 {
		t.Fatalf("%d bytes", len(b))
	}
	return [512]byte([]byte(b))
}

// P13.1: a record of each form as others write them, byte by byte.
func TestDecodeForms(t *testing.T) {
	ahead := filled("some/name", 100) + "000644 \x00" + "001750 \x00" + "000144 \x00" + "00000030071 " + "14524734000 "
	behind := filled("user", 32) + filled("group", 32) + "0000010\x00" + "0000021\x00" + filled("pre/fix", 155) + zeros(12)
	for _, x := range []struct {
		b    string
		want api.Header
	}{
		{
			ahead + "        " + "\x00" + filled("to", 100) + zeros(8) + behind,
			api.Header{Form: 1, Name: "some/name", Mode: 420, UID: 1000, GID: 100, Size: 12345, Time: 0o14524734000, Type: '0', Link: "to"},
		},
		{
			ahead + "        " + "2" + filled("to", 100) + "ustar\x0000" + behind,
			api.Header{Form: 2, Name: "some/name", Mode: 420, UID: 1000, GID: 100, Size: 12345, Time: 0o14524734000, Type: '2', Link: "to", User: "user", Group: "group", Major: 8, Minor: 17, Prefix: "pre/fix"},
		},
		{
			ahead + "        " + "L" + filled("to", 100) + "ustar  \x00" + behind,
			api.Header{Form: 3, Name: "some/name", Mode: 420, UID: 1000, GID: 100, Size: 12345, Time: 0o14524734000, Type: 'L', Link: "to", User: "user", Group: "group", Major: 8, Minor: 17},
		},
	} {
		got, at, why := heldDecode(t, field.PutSum(whole(t, x.b)))
		if got != x.want || at != 0 || why != api.OK {
			t.Errorf("%+v %d %d, not %+v", got, at, why, x.want)
		}
	}
}

// P13.1: either sum in the sum's field, in all ways to tell it, and none of them; an error of the sum is told ahead of all others.
func TestDecodeSums(t *testing.T) {
	for _, form := range forms {
		for _, name := range []string{"name", "n\x80m\xff", strings.Repeat("\xfe", 20)} {
			h := plain(form)
			h.Name = name
			r, _ := heldEncode(t, h)
			one, two := field.Sums(r)
			for _, n := range []int64{0, one, two, one - 1, one + 1, two - 1, two + 1, one + two} {
				for _, how := range []string{"%06o\x00 ", "%8o", "%-8o", "%08o"} {
					copy(r[148:156], fmt.Sprintf(how, n))
					got, at, why := heldDecode(t, r)
					if n == one || n == two {
						if got != h || at != 0 || why != api.OK {
							t.Fatalf("%q: %+v %d %d", r[148:156], got, at, why)
						}
					} else if at != 148 || why != api.ErrSum {
						t.Fatalf("%q: %d %d", r[148:156], at, why)
					}
				}
			}
			for _, said := range []string{"        ", zeros(8), "x0123456", "00000009", "\x80\x00\x00\x00\x00\x00\x10\x00", "\xff\xff\xff\xff\xff\xff\xff\xff"} {
				copy(r[148:156], said)
				if _, at, why := heldDecode(t, r); at != 148 || why != api.ErrSum {
					t.Errorf("%q: %d %d", said, at, why)
				}
			}
			copy(r[100:], "9")
			r[257] = 'X'
			if _, at, why := heldDecode(t, r); at != 148 || why != api.ErrSum {
				t.Errorf("ahead of the others: %d %d", at, why)
			}
		}
	}
	if got, at, why := heldDecode(t, [512]byte{}); got != (api.Header{}) || at != 148 || why != api.ErrSum {
		t.Errorf("zeros: %+v %d %d", got, at, why)
	}
}

// P13.1: of all magics that are one byte off none is taken; nor are others that are about, nor is a part of one.
func TestDecodeMagic(t *testing.T) {
	for _, form := range forms {
		r := record(t, form)
		for at := 257; at < 265; at++ {
			for x := range 256 {
				other := r
				other[at] = byte(x)
				got, place, why := heldDecode(t, field.PutSum(other))
				if other == r {
					if why != api.OK || got != plain(form) {
						t.Fatalf("form %d: %d", form, why)
					}
				} else if place != 257 || why != api.ErrMagic || got != (api.Header{}) {
					t.Fatalf("%q: %d %d", other[257:265], place, why)
				}
			}
		}
		for _, other := range []string{"ustar\x00  ", "ustar   ", "ustar\x00\x00\x00", "ustar  0", "USTAR\x0000", "00ustar\x00", "        ", "\x00\x00\x00\x00\x00\x00\x00 ", "ustar 00"} {
			copy(r[257:265], other)
			if _, place, why := heldDecode(t, field.PutSum(r)); place != 257 || why != api.ErrMagic {
				t.Errorf("%q: %d %d", other, place, why)
			}
		}
		copy(r[100:], "9")
		if _, place, why := heldDecode(t, field.PutSum(r)); place != 257 || why != api.ErrMagic {
			t.Errorf("ahead of a number: %d %d", place, why)
		}
	}
}

// said are fields of a number of that width, and what is to be answered of them if the number may not be below 0.
func said(width int) map[string]api.Errno {
	rest := width - 2
	l := map[string]api.Errno{
		strings.Repeat("0", width-1) + "\x00": api.OK,
		strings.Repeat("7", width):            api.OK,
		strings.Repeat(" ", width):            api.OK,
		zeros(width):                          api.OK,
		"\x80" + zeros(width-2) + "\x07":      api.OK,
		"8" + zeros(width-1):                  api.ErrDigit,
		"x" + strings.Repeat("0", width-1):    api.ErrDigit,
		strings.Repeat("0", width-1) + "9":    api.ErrDigit,
		"1 " + strings.Repeat("2", rest):      api.ErrDigit,
		"1\x00" + strings.Repeat("2", rest):   api.ErrDigit,
		"-1" + zeros(rest):                    api.ErrDigit,
		strings.Repeat("\xff", width):         api.ErrBig,
		"\xc0" + zeros(width-1):               api.ErrBig,
		"\xff" + zeros(width-1):               api.ErrBig,
	}
	if width == 8 {
		l["\xbf"+strings.Repeat("\xff", 7)] = api.OK // 2^62 - 1
	} else {
		l["\x80\x00\x00\x00\x7f"+strings.Repeat("\xff", 7)] = api.OK // 2^63 - 1
		l["\x80\x00\x00\x00\x80"+zeros(7)] = api.ErrBig
		l["\xbf"+strings.Repeat("\xff", 11)] = api.ErrBig
	}
	return l
}

// P13.1: each number in turn no number, too great, and below 0.
func TestDecodeNumbers(t *testing.T) {
	for _, form := range forms {
		r := record(t, form)
		for _, p := range rows(true) {
			for b, want := range said(p.width) {
				got, at, why := heldDecode(t, p.with(r, b))
				if p.negative() && b == strings.Repeat("\xff", 12) { // -1
					want = api.OK
				}
				place := p.from
				if want == api.OK || !p.in(form) {
					place, want = 0, api.OK
				}
				if at != place || why != want {
					t.Fatalf("form %d, %s %q: %d %d, not %d", form, p.name, b, at, why, want)
				}
				if why != api.OK && got != (api.Header{}) {
					t.Fatalf("%+v beside %d", got, why)
				}
			}
		}
	}
}

// P13.1: Time may be below 0, down to the end of int64 and not beyond.
func TestDecodeTime(t *testing.T) {
	for _, x := range []struct {
		b    string
		want int64
		why  api.Errno
	}{
		{"\xff\xff\xff\xff\xff\xff\xff\xff\xff\xff\xff\xff", -1, api.OK},
		{"\xff\xff\xff\xff\xff\xff\xff\xff\xff\xff\xff\x00", -256, api.OK},
		{"\xff\xff\xff\xff\x80\x00\x00\x00\x00\x00\x00\x00", -1 << 63, api.OK},
		{"\xff\xff\xff\xff\x7f\xff\xff\xff\xff\xff\xff\xff", 0, api.ErrBig},
		{"\x80\x00\x00\x00\x7f\xff\xff\xff\xff\xff\xff\xff", 1<<63 - 1, api.OK},
		{"\x80\x00\x00\x00\x80\x00\x00\x00\x00\x00\x00\x00", 0, api.ErrBig},
		{"777777777777", 1<<36 - 1, api.OK},
		{"77777777777\x00", 1<<33 - 1, api.OK},
	} {
		for _, form := range forms {
			r := record(t, form)
			copy(r[136:], x.b)
			got, at, why := heldDecode(t, field.PutSum(r))
			if got.Time != x.want || why != x.why || at != 0 && at != 136 {
				t.Errorf("form %d, %q: %d %d %d", form, x.b, got.Time, at, why)
			}
		}
	}
}

// P13.1: of two faults the first in the order of the table is told, with its place.
func TestDecodeTwo(t *testing.T) {
	bad := map[api.Errno]func(width int) string{
		api.ErrDigit: func(width int) string { return filled("9", width) },
		api.ErrBig:   func(width int) string { return "\xc0" + zeros(width-1) },
	}
	for _, form := range forms {
		numbers := rows(true)
		for i, p := range numbers {
			for _, q := range numbers[i+1:] {
				for why, one := range bad {
					for _, two := range bad {
						r := q.with(p.with(record(t, form), one(p.width)), two(q.width))
						_, at, err := heldDecode(t, r)
						if p.in(form) && (at != p.from || err != why) {
							t.Fatalf("form %d, %s and %s: %d %d", form, p.name, q.name, at, err)
						}
					}
				}
			}
		}
	}
}

// P13.1: bytes in fields that the form has not, and bytes that no field has, play no part.
func TestDecodeIgnored(t *testing.T) {
	chance := rand.New(rand.NewSource(13))
	for _, form := range forms {
		from := map[int]int{api.V7: 265, api.Ustar: 500, api.GNU: 345}[form]
		r := record(t, form)
		for at := from; at < 512; at++ {
			for _, x := range []byte{1, '0', '9', ' ', 128, 255} {
				other := r
				other[at] = x
				if got, _, why := heldDecode(t, field.PutSum(other)); got != plain(form) || why != api.OK {
					t.Fatalf("form %d, %d at %d: %+v %d", form, x, at, got, why)
				}
			}
		}
		for range 100 {
			copy(r[from:], noise(chance, 512-from))
			if got, _, why := heldDecode(t, field.PutSum(r)); got != plain(form) || why != api.OK {
				t.Fatalf("form %d: %+v %d", form, got, why)
			}
		}
	}
}

// P13.1: texts that fill their field, that are empty, and with bytes behind their first zero.
func TestDecodeTexts(t *testing.T) {
	for _, form := range forms {
		for _, p := range rows(false) {
			long := strings.Repeat("\xfex", p.width)[:p.width]
			for b, want := range map[string]string{
				long:                                   long,
				long[:p.width-1] + "\x00":              long[:p.width-1],
				zeros(p.width):                         "",
				"\x00" + long[1:]:                      "",
				filled("a\x00b", p.width):              "a",
				"a" + zeros(1) + long[2:]:              "a",
				strings.Repeat(" ", p.width):           strings.Repeat(" ", p.width),
				filled("/a//b/", p.width):              "/a//b/",
				filled("\xff\x01", p.width):            "\xff\x01",
				strings.Repeat("é", p.width)[:p.width]: strings.Repeat("é", p.width)[:p.width],
			} {
				if !p.in(form) {
					want = ""
				}
				got, _, why := heldDecode(t, p.with(record(t, form), b))
				if got != p.withText(plain(form), want) || why != api.OK {
					t.Fatalf("form %d, %s %q: %+v %d", form, p.name, b, got, why)
				}
			}
		}
	}
}

// P13.1: each Type is told as it stands, but for a byte 0.
func TestDecodeType(t *testing.T) {
	for _, form := range forms {
		r := record(t, form)
		for x := range 256 {
			r[156] = byte(x)
			want := byte(x)
			if x == 0 {
				want = '0'
			}
			if got, at, why := heldDecode(t, field.PutSum(r)); got.Type != want || at != 0 || why != api.OK {
				t.Fatalf("form %d, type %d: %d %d %d", form, x, got.Type, at, why)
			}
		}
	}
}

// P13.1: records by chance, most of them right but for some fields.
func TestDecodeChance(t *testing.T) {
	t.Parallel()
	chance := rand.New(rand.NewSource(13))
	seen := make(map[api.Errno]int)
	places := make(map[int]int)
	for range 60000 {
		r := record(t, forms[chance.Intn(3)])
		for range chance.Intn(4) {
			spot(chance, &r)
		}
		if chance.Intn(8) > 0 {
			r = field.PutSum(r)
		}
		_, at, why := heldDecode(t, r)
		seen[why]++
		places[at]++
	}
	for _, why := range []api.Errno{api.OK, api.ErrSum, api.ErrMagic, api.ErrDigit, api.ErrBig} {
		if seen[why] < 1000 {
			t.Errorf("%d times %d", seen[why], why)
		}
	}
	for _, p := range rows(true) {
		if places[p.from] < 500 {
			t.Errorf("%d times at %s", places[p.from], p.name)
		}
	}
}

// spot writes something over a field, or over a byte anywhere.
func spot(chance *rand.Rand, r *[512]byte) {
	switch chance.Intn(12) {
	case 0:
		r[chance.Intn(512)] = byte(chance.Intn(256))
		return
	case 1:
		r[257+chance.Intn(8)] = "\x00 0ur"[chance.Intn(5)]
		return
	}
	p := table[chance.Intn(len(table))]
	b := r[p.from : p.from+p.width]
	switch chance.Intn(5) {
	case 0:
		copy(b, noise(chance, p.width))
	case 1:
		copy(b, "\xff"+noise(chance, chance.Intn(p.width)))
	case 2:
		copy(b, filled("\x80", 4)+noise(chance, p.width-4))
	case 3:
		b[chance.Intn(p.width)] = " \x00079x"[chance.Intn(6)]
	case 4:
		copy(b, strings.Repeat("7", p.width))
	}
}
