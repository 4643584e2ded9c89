package sparse_test

import (
	"bytes"
	"math"
	"math/rand"
	"slices"
	"strconv"
	"strings"
	"testing"

	"satchel/api"
	"satchel/sparse"
)

const (
	top    = "9223372036854775807" // MaxSize
	beyond = "9223372036854775808"
)

// P15.3: the chapter's examples of Put, and maps of no, one and more ranges.
func TestPut(t *testing.T) {
	const most = api.MaxSize
	for _, x := range []struct {
		l    []api.Range
		want string
	}{
		{ranges(0, 2, 8, 9), "2\n0\n2\n8\n1\n"},
		{nil, "0\n"},
		{[]api.Range{}, "0\n"},
		{ranges(0, 0), "1\n0\n0\n"},
		{ranges(7, 7), "1\n7\n0\n"},
		{ranges(10, 110), "1\n10\n100\n"},
		{ranges(0, most), "1\n0\n" + top + "\n"},
		{ranges(most, most), "1\n" + top + "\n0\n"},
		{ranges(1, most), "1\n1\n" + top[:18] + "6\n"},
		{ranges(0, 1, 1, 2, 2, 2), "3\n0\n1\n1\n1\n2\n0\n"},
	} {
		b, why := sparse.Put(x.l)
		if !bytes.Equal(b, filled(x.want)) || len(b) != 512 || why != api.OK {
			t.Errorf("Put(%v): %d bytes, %.99q %d", x.l, len(b), b, why)
		}
		heldPut(t, x.l)
	}
}

// P15.3: Put of lists that can't be a map.
func TestPutArg(t *testing.T) {
	for _, l := range [][]api.Range{
		ranges(-1, 0),
		ranges(-1, -1),
		ranges(2, 1),
		ranges(2, -1),
		ranges(0, 2, 1, 3),
		ranges(4, 5, 0, 1),
		ranges(math.MinInt64, math.MinInt64),
		ranges(math.MinInt64, math.MaxInt64),
		ranges(0, 1, 5, 4),
		many(65537),
		make([]api.Range, 65537),
	} {
		if b, why := heldPut(t, l); len(b) != 0 || why != api.ErrArg {
			t.Errorf("Put(%.99v): %d", l, why)
		}
	}
}

// P15.3, P15.7: MaxRanges ranges, there and back.
func TestPutMany(t *testing.T) {
	b, why := heldPut(t, many(65536))
	if why != api.OK || !bytes.HasPrefix(b, []byte("65536\n0\n1\n2\n1\n")) || !bytes.HasSuffix(bytes.TrimRight(b, "\x00"), []byte("\n131070\n1\n")) {
		t.Errorf("%d", why)
	}
	if l, n, why := heldRead(t, b); len(l) != 65536 || n != len(b) || why != api.OK {
		t.Errorf("back: %d %d %d", len(l), n, why)
	}
	for _, cut := range []int{6, 7, 512, len(b) / 2, len(b) - 512, len(b) - 1} {
		if _, _, why := heldRead(t, b[:cut]); why != api.ErrShort {
			t.Errorf("the first %d bytes: %d", cut, why)
		}
	}
}

// lasting is a map whose text, but for the zeros, has so many bytes.
func lasting(n int) []api.Range {
	count := (n - 9) / 4 // of empty ranges; what is missing the last one's beginning has
	for digits := 1; digits < 19; digits++ {
		last, _ := strconv.ParseInt("1"+strings.Repeat("0", digits-1), 10, 64)
		l := append(make([]api.Range, count-1), api.Range{From: last, To: last})
		if len(strconv.Itoa(count))+1+4*count+digits-1 == n {
			return l
		}
	}
	panic("no map of such a text: " + strconv.Itoa(n))
}

// P15.3: texts that end about a record's end: as few zeros as are needed, none if it is just there.
func TestRecordsEnd(t *testing.T) {
	for _, records := range []int{1, 2, 3, 10} {
		for more := -3; more <= 3; more++ {
			n := 512*records + more
			l := lasting(n)
			want := 512 * records
			if more > 0 {
				want += 512
			}
			b, why := heldPut(t, l)
			if len(b) != want || why != api.OK || b[n-1] != '\n' || strings.Trim(string(b[n:]), "\x00") != "" {
				t.Errorf("a text of %d: %d bytes, %d", n, len(b), why)
			}
			heldEnds(t, b, n)
		}
	}
}

// heldEnds holds Read of a text of which n bytes are no zeros, with bytes behind it, cut off and with a byte among the zeros.
func heldEnds(t *testing.T, b []byte, n int) {
	t.Helper()
	for _, behind := range []string{"", "x", "\x00", "0\n", strings.Repeat("\xff", 513)} {
		if _, size, why := heldRead(t, slices.Concat(b, []byte(behind))); size != len(b) || why != api.OK {
			t.Errorf("%d bytes, %.9q behind: %d %d", len(b), behind, size, why)
		}
	}
	for _, cut := range []int{len(b) - 1, n, n - 1, n - 2} {
		if _, _, why := heldRead(t, b[:cut]); why != api.ErrShort && cut < len(b) {
			t.Errorf("the first %d bytes of %d: %d", cut, len(b), why)
		}
	}
	for _, at := range []int{n, n + 1, (n + len(b)) / 2, len(b) - 2, len(b) - 1} {
		if at < n || at >= len(b) {
			continue
		}
		turned := slices.Clone(b)
		turned[at] = 1
		if _, _, why := heldRead(t, turned); why != api.ErrForm {
			t.Errorf("a byte at %d of %d: %d", at, len(b), why)
		}
		if _, _, why := heldRead(t, turned[:at+1]); why != api.ErrForm {
			t.Errorf("a byte at %d, and the end: %d", at, why)
		}
	}
}

// P15.3: what Read takes.
func TestRead(t *testing.T) {
	for _, x := range []struct {
		text string
		want []api.Range
	}{
		{"0\n", nil},
		{"2\n0\n2\n8\n1\n", ranges(0, 2, 8, 9)},
		{"1\n0\n0\n", ranges(0, 0)},
		{"1\n" + top + "\n0\n", ranges(api.MaxSize, api.MaxSize)},
		{"1\n0\n" + top + "\n", ranges(0, api.MaxSize)},
		{"1\n1\n" + top[:18] + "6\n", ranges(1, api.MaxSize)},
		{"2\n5\n3\n8\n0\n", ranges(5, 8, 8, 8)}, // they touch
		{"3\n8\n0\n8\n0\n8\n1\n", ranges(8, 8, 8, 8, 8, 9)},
		{"2\n0\n" + top + "\n" + top + "\n0\n", ranges(0, api.MaxSize, api.MaxSize, api.MaxSize)},
	} {
		l, n, why := sparse.Read(filled(x.text))
		if !slices.Equal(l, x.want) || n != 512 || why != api.OK {
			t.Errorf("Read(%q ..): %v %d %d", x.text, l, n, why)
		}
		heldEnds(t, filled(x.text), len(x.text))
	}
}

// P15.3: what Read refuses, two faults at once among it: the one of the byte that stands ahead is told.
func TestReadRefused(t *testing.T) {
	for _, x := range []struct {
		text string
		why  api.Errno
	}{
		{"", api.ErrShort},
		{"0", api.ErrShort},
		{"1", api.ErrShort},
		{"12", api.ErrShort},
		{"1\n", api.ErrShort},
		{"1\n5", api.ErrShort},
		{"1\n5\n", api.ErrShort},
		{"1\n5\n0", api.ErrShort},
		{"1\n5\n1", api.ErrShort},
		{"1\n5\n1\n", api.ErrShort},
		{"0\n", api.ErrShort},
		{"0\n\x00", api.ErrShort},
		{top, api.ErrShort},
		{"1\n" + top, api.ErrShort},
		{"1\n0\n" + top, api.ErrShort},

		{"x", api.ErrForm},
		{"\n", api.ErrForm},
		{"\x00", api.ErrForm},
		{"1x", api.ErrForm},
		{"0x", api.ErrForm},
		{"1\x00", api.ErrForm},
		{"1\r\n", api.ErrForm},
		{"-1", api.ErrForm},
		{"+1", api.ErrForm},
		{" 1", api.ErrForm},
		{"1 ", api.ErrForm},
		{"1_0", api.ErrForm},
		{"/", api.ErrForm}, // beside the digits
		{":", api.ErrForm},
		{"1/", api.ErrForm},
		{"1:", api.ErrForm},
		{"\xb1", api.ErrForm}, // a digit with its highest bit turned
		{"\u0661\n", api.ErrForm},
		{"00", api.ErrForm},
		{"01", api.ErrForm},
		{"01\n", api.ErrForm},
		{"00\n", api.ErrForm},
		{"1\n00\n1\n", api.ErrForm},
		{"1\n0\n01\n", api.ErrForm},
		{"1\nx", api.ErrForm},
		{"1\n\n", api.ErrForm},
		{"1\n5\nx", api.ErrForm},
		{"1\n5\n\n", api.ErrForm},
		{beyond, api.ErrForm},
		{beyond + "\n", api.ErrForm},
		{"1\n" + beyond, api.ErrForm},
		{"1\n" + beyond + "\n0\n", api.ErrForm},
		{"1\n0\n" + beyond, api.ErrForm},
		{"1\n0\n" + beyond + "\n", api.ErrForm},
		{top + "0", api.ErrForm},
		{"18446744073709551616", api.ErrForm}, // 2^64, and what would wrap to 1
		{"18446744073709551617\n0\n1\n", api.ErrForm},
		{"1\n18446744073709551617\n1\n", api.ErrForm},
		{strings.Repeat("9", 999), api.ErrForm},

		{"65537\n", api.ErrLong},
		{"100000\n", api.ErrLong},
		{top + "\n", api.ErrLong},
		{"4294967296\n", api.ErrLong}, // 2^32
		{"65537\nx", api.ErrLong},
		{"65537\n01\n", api.ErrLong},
		{"65537", api.ErrShort},
		{"65537x", api.ErrForm},
		{"065537\n", api.ErrForm},
		{"65536\n", api.ErrShort},
		{"65536\nx", api.ErrForm},
		{beyond + "x\n", api.ErrForm},

		{"1\n" + top + "\n1\n", api.ErrForm},
		{"1\n1\n" + top + "\n", api.ErrForm},
		{"1\n" + top + "\n" + top + "\n", api.ErrForm},
		{"1\n" + top + "\n1", api.ErrShort}, // told when the second number was read
		{"1\n" + top + "\n1x", api.ErrForm},
		{"2\n0\n1\n" + top + "\n1\n", api.ErrForm},
		{"2\n" + top + "\n1\nx", api.ErrForm},
		{"2\n5\n1\n3\n1\n", api.ErrForm},
		{"2\n5\n1\n5\n1\n", api.ErrForm},
		{"2\n5\n1\n5\n0\n", api.ErrForm},
		{"2\n5\n1\n3\n9\n", api.ErrForm},
		{"2\n5\n1\n0\n0\n", api.ErrForm},
		{"2\n5\n1\n3\n1", api.ErrShort},
		{"2\n5\n1\n3\n", api.ErrShort},
		{"2\n5\n1\n3", api.ErrShort},
		{"2\n5\n1\n3\nx", api.ErrForm},
		{"3\n5\n1\n3\n1\nx", api.ErrForm},
		{"3\n5\n1\n7\n1\n6\n1\n", api.ErrForm},
		{"3\n5\n1\n7\n0\n6\n9\n", api.ErrForm},

		{"0\nx", api.ErrForm},
		{"0\n0", api.ErrForm},
		{"0\n\n", api.ErrForm},
		{"0\n\x00\x00x", api.ErrForm},
		{"0\n\x00\x00\x00", api.ErrShort},
		{"1\n5\n1\n2", api.ErrForm},
		{"1\n5\n1\n\x002\n", api.ErrForm},
	} {
		l, n, why := sparse.Read([]byte(x.text))
		if len(l) != 0 || n != 0 || why != x.why {
			t.Errorf("Read(%.99q): %v %d %d, not %d", x.text, l, n, why, x.why)
		}
		heldRead(t, []byte(x.text))
	}
	if l, n, why := sparse.Read(nil); len(l) != 0 || n != 0 || why != api.ErrShort {
		t.Errorf("of nil: %v %d %d", l, n, why)
	}
}

// P15.3: each number that can't be, in the place of each number of a map, with and without what stands behind it.
func TestReadNumbers(t *testing.T) {
	good := []string{"3", "10", "5", "20", "7", "30", "0"}
	for i := range good {
		for _, x := range []string{"", "x", "1x", "x1", "-1", "+1", " 1", "1 ", "01", "00", "030", "1.5", "0x1", "1e1", beyond, top + "0", "99999999999999999999", "\x00", "1\x00", "\r"} {
			bad := slices.Clone(good)
			bad[i] = x
			text := strings.Join(bad, "\n") + "\n"
			ahead := strings.Join(bad[:i+1], "\n") + "\n"
			for _, b := range [][]byte{filled(text), []byte(text), []byte(ahead), filled(ahead)} {
				if _, _, why := heldRead(t, b); why != api.ErrForm {
					t.Errorf("%.99q: %d", b, why)
				}
			}
		}
		ahead := strings.Join(good[:i+1], "\n")
		for _, s := range []string{ahead, ahead + "\n"} {
			if _, _, why := heldRead(t, []byte(s)); why != api.ErrShort {
				t.Errorf("%q: %d", s, why)
			}
		}
	}
}

// P15.3: a map's text cut off anywhere, and with each byte at each place.
func TestReadTurned(t *testing.T) {
	t.Parallel()
	const text = "3\n10\n5\n20\n7\n30\n0\n"
	good := filled(text)
	for n := range good {
		if _, _, why := heldRead(t, good[:n]); why != api.ErrShort {
			t.Errorf("the first %d bytes: %d", n, why)
		}
	}
	for at := range good {
		for x := range 256 {
			if at > len(text) && at < 500 && x%37 != 0 {
				continue
			}
			turned := slices.Clone(good)
			turned[at] = byte(x)
			_, _, why := heldRead(t, turned)
			if at >= len(text) && (why == api.OK) != (x == 0) {
				t.Errorf("%d at %d: %d", x, at, why)
			}
			heldRead(t, turned[:at+1])
		}
	}
}

// P15.3, P15.7: all short texts of the bytes that matter: alone, filled up, with one zero too few and one byte behind.
func TestReadSmall(t *testing.T) {
	t.Parallel()
	fine := 0
	for n := range 8 {
		for _, s := range texts("01\nx", n) {
			heldRead(t, []byte(s))
			whole := filled(s + "\x00")
			heldRead(t, whole[:511])
			heldRead(t, append(whole[:512:512], 'x'))
			if l, _, why := heldRead(t, whole); why == api.OK {
				fine++
				if again, _ := sparse.Put(l); !bytes.Equal(again, whole) {
					t.Fatalf("%q is not the one form", s)
				}
			}
		}
	}
	if fine != 1+4+8 { // no range; one of a digit and a digit; one of a digit and two digits, either ahead
		t.Errorf("%d are fine", fine)
	}
}

// P15.3, P15.7: maps by chance, there and back; then with bytes turned, taken out, put in and cut off.
func TestTextChance(t *testing.T) {
	t.Parallel()
	r := rand.New(rand.NewSource(15))
	seen := make(map[api.Errno]int)
	for range 4000 {
		l, _ := chanceMap(r, 1+r.Intn(60))
		b, why := heldPut(t, l)
		if why != api.OK {
			t.Fatalf("Put(%v): %d", l, why)
		}
		for range 6 {
			_, _, why := heldRead(t, worse(r, b))
			seen[why]++
		}
	}
	for _, why := range []api.Errno{api.OK, api.ErrForm, api.ErrShort} {
		if seen[why] < 500 {
			t.Errorf("%d: %d times", why, seen[why])
		}
	}
}

// worse is bytes with one or two small changes.
func worse(r *rand.Rand, b []byte) []byte {
	b = slices.Clone(b)
	text := len(bytes.TrimRight(b, "\x00"))
	for range 1 + r.Intn(2) {
		at := r.Intn(text)
		if r.Intn(5) == 0 {
			at = r.Intn(len(b))
		}
		at = min(at, len(b)-1)
		switch r.Intn(5) {
		case 0:
			b[at] = "0123456789\n\x00x"[r.Intn(13)]
		case 1:
			b = slices.Insert(b, at, "0123456789\n\x00x"[r.Intn(13)])
		case 2:
			b = slices.Delete(b, at, at+1)
		case 3:
			b = b[:at+1]
		case 4:
			b[at] ^= 1 << r.Intn(8)
		}
	}
	return b
}
