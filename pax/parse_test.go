package pax_test

import (
	"math/rand"
	"slices"
	"strconv"
	"strings"
	"testing"

	"satchel/api"
	"satchel/pax"
)

// P14.1: the pairs of records, one behind the other, in their order.
func TestParse(t *testing.T) {
	for text, want := range map[string][]api.Pair{
		"":                             nil,
		"9 path=a\n":                   {{Key: "path", Value: "a"}},
		"5 a=\n":                       {{Key: "a"}},
		"6 a==\n":                      {{Key: "a", Value: "="}},
		"9 a=b=c=\n":                   {{Key: "a", Value: "b=c="}},
		"7 a=\n\n\n":                   {{Key: "a", Value: "\n\n"}},
		"6 \n=a\n":                     {{Key: "\n", Value: "a"}},
		"8 \n 1=a\n":                   {{Key: "\n 1", Value: "a"}},
		"6 \xff=\xfe\n":                {{Key: "\xff", Value: "\xfe"}},
		"9 path=a\n5 a=\n10 a=bcde\n":  {{Key: "path", Value: "a"}, {Key: "a"}, {Key: "a", Value: "bcde"}},
		"6 b=1\n6 a=2\n6 b=3\n":        {{Key: "b", Value: "1"}, {Key: "a", Value: "2"}, {Key: "b", Value: "3"}},
		"13 a=6 b=1\n\n\n11 b=6 c=1\n": {{Key: "a", Value: "6 b=1\n\n"}, {Key: "b", Value: "6 c=1"}},
		"13 6 a=1 b=2\n":               {{Key: "6 a", Value: "1 b=2"}},
		"5 a=\n" + "5 a=\n" + "5 a=\n": {{Key: "a"}, {Key: "a"}, {Key: "a"}},
		"5 0=\n" + "6  =\n\n":          {{Key: "0"}, {Key: " ", Value: "\n"}},
	} {
		if l, why := heldParse(t, []byte(text)); !slices.Equal(l, want) || why != api.OK {
			t.Errorf("Parse(%q): %q %d, not %q", text, l, why, want)
		}
	}
}

// fault is a record that can't be, and the place in it; -1 is b's end.
type fault struct {
	text string
	at   int
	why  api.Errno
}

// faults are records with each of the faults, and with two of them, in the order of the chapter.
func faults() []fault {
	return []fault{
		{"x", 0, api.ErrLength}, // a byte that is no digit
		{"x a=b\n", 0, api.ErrLength},
		{"6x a=b\n", 0, api.ErrLength},
		{"6\ta=b\n", 0, api.ErrLength},
		{"+6 a=b\n", 0, api.ErrLength},
		{"-6 a=b\n", 0, api.ErrLength},
		{"6a=b\n", 0, api.ErrLength},
		{"6/ a=b\n", 0, api.ErrLength},
		{"6: a=b\n", 0, api.ErrLength},
		{"1234567x", 0, api.ErrLength},
		{"\x00", 0, api.ErrLength},
		{"\n", 0, api.ErrLength},
		{" ", 0, api.ErrLength}, // no digit
		{" a=b\n", 0, api.ErrLength},
		{" 6 a=b\n", 0, api.ErrLength},
		{"0", 0, api.ErrLength}, // a zero ahead
		{"0 a=b\n", 0, api.ErrLength},
		{"06 a=b\n", 0, api.ErrLength},
		{"07 a=b\n", 0, api.ErrLength},
		{"00000", 0, api.ErrLength},
		{"011 path=a\n", 0, api.ErrLength},
		{"0000000000", 0, api.ErrLength},
		{"12345678", 0, api.ErrLength}, // an eighth digit
		{"12345678 a=b\n", 0, api.ErrLength},
		{"10000006 a=b\n", 0, api.ErrLength},
		{"123456789012345678901234567890 a=b\n", 0, api.ErrLength},
		{"6", -1, api.ErrShort}, // b's end ahead of the blank
		{"4", -1, api.ErrShort},
		{"1234567", -1, api.ErrShort},
		{"9999999", -1, api.ErrShort},
		{"6 ", -1, api.ErrShort}, // at it and behind it
		{"5 ", -1, api.ErrShort},
		{"4 ", 0, api.ErrLength}, // below its digits, the blank and 3
		{"1 ", 0, api.ErrLength},
		{"1 a=b\n", 0, api.ErrLength},
		{"4 a=\n", 0, api.ErrLength},
		{"4 ab\n", 0, api.ErrLength},
		{"3 \n", 0, api.ErrLength},
		{"10 ", -1, api.ErrShort},      // the least of two digits is beyond 6 anyway
		{"9 path=a", -1, api.ErrShort}, // b's end ahead of the record's
		{"9 path", -1, api.ErrShort},
		{"9 p", -1, api.ErrShort},
		{"7 a=b\n", -1, api.ErrShort},
		{"1234567 a=b\n", -1, api.ErrShort},
		{"9999999 =\x00", -1, api.ErrShort},
		{"99 =\x00", -1, api.ErrShort},
		{"6 a=bc", 5, api.ErrRecord}, // no line feed
		{"6 a=bc\n", 5, api.ErrRecord},
		{"5 a=b\n", 4, api.ErrRecord},
		{"5 a\n=\n", 4, api.ErrRecord},
		{"7 a=bcd", 6, api.ErrRecord},
		{"6 a=b\x00", 5, api.ErrRecord},
		{"6 a=b\r", 5, api.ErrRecord},
		{"6 =\x00bc", 5, api.ErrRecord},
		{"10 abcdefgh", 9, api.ErrRecord},
		{"6 abc\n", 2, api.ErrKey}, // no =
		{"5 a\n\n", 2, api.ErrKey},
		{"10 abcdef\n", 3, api.ErrKey},
		{"6 abc\n=b\n", 2, api.ErrKey},
		{"6 =ab\n", 2, api.ErrKey}, // = first
		{"5 =\n\n", 2, api.ErrKey},
		{"5 ==\n", 2, api.ErrKey},
		{"6 ==a\n", 2, api.ErrKey},
		{"7 \x00a=b\n", 2, api.ErrKey}, // a byte 0 in the key
		{"7 a\x00=b\n", 2, api.ErrKey},
		{"5 \x00=\n", 2, api.ErrKey},
		{"6 a=\x00\n", 2, api.ErrKey}, // in the value
		{"8 a=bc\x00\n", 2, api.ErrKey},
		{"8 a=\x00bc\n", 2, api.ErrKey},
		{"11 a=b=\x00cd\n", 3, api.ErrKey},
		{"6 \x00\x00\x00\n", 2, api.ErrKey},
	}
}

// P14.1: each of the errors, at the first record and at a later one, with its place; and of two records that can't be the first one's.
func TestParseFaults(t *testing.T) {
	for _, ahead := range []string{"", "5 a=\n", "9 path=a\n", "9 path=a\n5 a=\n10 a=bcde\n", strings.Repeat("5 a=\n", 300)} {
		for _, x := range faults() {
			text := ahead + x.text
			want := x.at + len(ahead)
			if x.at < 0 {
				want = len(text)
			}
			heldParse(t, []byte(text))
			if l, at, why := pax.Parse([]byte(text)); len(l) != 0 || at != want || why != x.why {
				t.Errorf("Parse(%q): %q %d %d, not %d %d", text, l, at, why, want, x.why)
			}
		}
	}
	for _, x := range faults() {
		for _, y := range faults() {
			heldParse(t, []byte(x.text+y.text))
			heldParse(t, []byte(x.text+"5 a=\n"+y.text))
		}
	}
}

// P14.1: cut off anywhere, and every length that a record might say.
func TestParseLengths(t *testing.T) {
	whole := "9 path=a\n" + "26 mtime=1234567890.12345\n" + record(api.Pair{Key: "comment", Value: strings.Repeat("=", 990)}, 4)
	for n := range len(whole) + 1 {
		_, why := heldParse(t, []byte(whole[:n]))
		if ends := n == 0 || n == 9 || n == 35 || n == len(whole); ends != (why == api.OK) || !ends && why != api.ErrShort {
			t.Errorf("Parse(%q): %d", whole[:n], why)
		}
	}
	seen := map[api.Errno]int{}
	for n := range 2000 {
		for _, body := range []string{" a=b\n", " a=b\n5 a=\n", " " + strings.Repeat("a=\n", 300)} {
			_, why := heldParse(t, []byte(strconv.Itoa(n)+body))
			seen[why]++
		}
	}
	for _, why := range []api.Errno{api.OK, api.ErrLength, api.ErrShort, api.ErrRecord} {
		if seen[why] == 0 {
			t.Errorf("never %d", why)
		}
	}
}

// P14.1: both lengths, where two are right; the greatest length of seven digits.
func TestParseTwo(t *testing.T) {
	for digits := 1; digits <= 6; digits++ {
		size := pow10(digits) - 1 - digits - len(" =\n")
		p := api.Pair{Key: "k", Value: strings.Repeat("v", size-1)}
		short, long := record(p, digits), record(p, digits+1)
		if len(short) != pow10(digits)-1 || len(long) != pow10(digits) {
			t.Fatal(digits, len(short), len(long))
		}
		for _, text := range []string{short, long, short + long, long + short} {
			l, why := heldParse(t, []byte(text))
			if why != api.OK || len(l) == 0 || l[0] != p || l[len(l)-1] != p {
				t.Errorf("%d digits: %d pairs, %d", digits, len(l), why)
			}
		}
	}
	p := api.Pair{Key: "k", Value: strings.Repeat("v", 9999999-7-4)}
	text := []byte(record(p, 7))
	if l, at, why := pax.Parse(text); len(l) != 1 || l[0] != p || at != 0 || why != api.OK {
		t.Error(len(l), at, why)
	}
	if l, at, why := pax.Parse(text[:len(text)-1]); len(l) != 0 || at != 9999998 || why != api.ErrShort {
		t.Error(len(l), at, why)
	}
}

func pow10(n int) int {
	p := 1
	for range n {
		p *= 10
	}
	return p
}

// P14.1: all short texts of the bytes that matter, alone and behind a record.
func TestParseAll(t *testing.T) {
	t.Parallel()
	seen := map[api.Errno]int{}
	for _, text := range allTexts("0156 a=\n\x00", 5) {
		_, why := heldParse(t, []byte(text))
		seen[why]++
		heldParse(t, []byte("6 a=b\n"+text))
		heldParse(t, []byte("6 "+text))
		heldParse(t, []byte("7 "+text+"\n"))
		heldParse(t, []byte("10 a"+text+"\n"))
	}
	for _, why := range []api.Errno{api.OK, api.ErrLength, api.ErrShort, api.ErrRecord, api.ErrKey} {
		if seen[why] == 0 {
			t.Errorf("never %d", why)
		}
	}
}

// chance is a pair by chance; now and then one that can't be.
func chance(r *rand.Rand, most int, wrong bool) api.Pair {
	text := func(alphabet string, n int) string {
		b := make([]byte, n)
		for i := range b {
			b[i] = alphabet[r.Intn(len(alphabet))]
		}
		return string(b)
	}
	p := api.Pair{Key: text("ab. \n\xff", 1+r.Intn(most)), Value: text("ab= \n\xff0", r.Intn(most))}
	if wrong {
		switch r.Intn(4) {
		case 0:
			p.Key = ""
		case 1:
			p.Key += "="
		case 2:
			p.Key = "\x00" + p.Key
		case 3:
			p.Value += "\x00"
		}
	}
	return p
}

// P14.1: records by chance, with bytes turned, taken out, put in and cut off.
func TestParseChance(t *testing.T) {
	t.Parallel()
	r := rand.New(rand.NewSource(14))
	seen := map[api.Errno]int{}
	for range 60000 {
		var b []byte
		for range r.Intn(5) {
			p := chance(r, 12, false)
			b = append(b, record(p, 1)+record(p, 2)...)
		}
		for range r.Intn(3) {
			if len(b) == 0 {
				break
			}
			at, x := r.Intn(len(b)), "0123456789 =\n\x00ab"[r.Intn(16)]
			switch r.Intn(4) {
			case 0:
				b[at] = x
			case 1:
				b = slices.Delete(b, at, at+1)
			case 2:
				b = slices.Insert(b, at, x)
			case 3:
				b = b[:at]
			}
		}
		_, why := heldParse(t, b)
		seen[why]++
	}
	for _, why := range []api.Errno{api.OK, api.ErrLength, api.ErrShort, api.ErrRecord, api.ErrKey} {
		if seen[why] < 100 {
			t.Errorf("%d was seen %d times", why, seen[why])
		}
	}
}
