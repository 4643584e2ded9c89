package sparse_test

import (
	"bytes"
	"math"
	"math/rand"
	"slices"
	"strings"
	"testing"

	"satchel/api"
	"satchel/sparse"
)

// P15.1: Valid, of each way in which a map can be and can't.
func TestValid(t *testing.T) {
	const top = api.MaxSize
	for _, x := range []struct {
		l    []api.Range
		size int64
		want bool
	}{
		{nil, 0, true},
		{nil, 1, true},
		{nil, top, true},
		{nil, -1, false},
		{nil, math.MinInt64, false}, // what MaxSize and one more wraps to
		{[]api.Range{}, 0, true},
		{[]api.Range{}, -1, false},

		{ranges(0, 0), 0, true},
		{ranges(0, 0), -1, false},
		{ranges(0, 0, 0, 0), 0, true},
		{ranges(0, 1), 0, false},
		{ranges(0, 1), 1, true},
		{ranges(1, 1), 1, true},
		{ranges(1, 1), 0, false},
		{ranges(0, 9), 9, true},
		{ranges(0, 9), 8, false},
		{ranges(0, 9), 10, true},
		{ranges(0, top), top, true},
		{ranges(0, top), top - 1, false},
		{ranges(top, top), top, true},
		{ranges(top, top), top - 1, false},
		{ranges(top-1, top, top, top), top, true},

		{ranges(0, 2, 8, 9), 9, true},
		{ranges(0, 2, 8, 9), 8, false},
		{ranges(3, 5, 5, 6), 9, true}, // they touch
		{ranges(3, 5, 4, 6), 9, false},
		{ranges(3, 5, 4, 4), 9, false},
		{ranges(3, 5, 5, 5, 5, 5, 5, 7), 9, true},
		{ranges(3, 3, 3, 5), 9, true},
		{ranges(3, 5, 3, 3), 9, false},
		{ranges(3, 5, 3, 5), 9, false},
		{ranges(3, 5, 0, 1), 9, false}, // they fall
		{ranges(3, 5, 0, 0), 9, false},
		{ranges(3, 5, 0, 9), 9, false},
		{ranges(1, 2, 5, 6, 3, 4), 9, false},
		{ranges(5, 6, 1, 2, 7, 8), 9, false},

		{ranges(-1, 0), 9, false},
		{ranges(-1, 5), 9, false},
		{ranges(-1, -1), 9, false},
		{ranges(-2, -1), 9, false},
		{ranges(math.MinInt64, math.MinInt64), 9, false},
		{ranges(math.MinInt64, 5), 9, false},
		{ranges(math.MinInt64, top), top, false},
		{ranges(1, 2, -1, 5), 9, false},
		{ranges(5, 4), 9, false},
		{ranges(5, 0), 9, false},
		{ranges(5, -1), 9, false},
		{ranges(5, math.MinInt64), 9, false},
		{ranges(top, 0), top, false},
		{ranges(1, 2, 5, 4), 9, false},
		{ranges(1, 2, 5, 4, 6, 7), 9, false},
		{ranges(1, 2, 9, 10), 9, false},
		{ranges(1, 2, 9, 9), 9, true},
		{ranges(1, 2, 10, 10), 9, false},
		{ranges(1, 10, 10, 11), 9, false},
	} {
		if got := sparse.Valid(x.l, x.size); got != x.want {
			t.Errorf("Valid(%v, %d): %t", x.l, x.size, got)
		}
		heldValid(t, x.l, x.size)
	}
}

// P15.1: MaxRanges ranges, and one more, whatever they are.
func TestValidMany(t *testing.T) {
	full := many(65537)
	empty := make([]api.Range, 65537)
	for _, l := range [][]api.Range{full, empty} {
		for _, size := range []int64{131073, api.MaxSize} {
			if !heldValid(t, l[:65535], size) || !heldValid(t, l[:65536], size) || heldValid(t, l, size) {
				t.Errorf("of %d", size)
			}
		}
	}
	if !heldValid(t, full[:65536], 131071) || heldValid(t, full[:65536], 131070) {
		t.Error("of the last one's end")
	}
	turned := slices.Clone(full[:65536])
	turned[65535].From -= 2 // into the one ahead
	if heldValid(t, turned, api.MaxSize) {
		t.Error("the last one begins too early")
	}
}

// P15.1: all lists of at most three ranges of small numbers, of small sizes.
func TestValidSmall(t *testing.T) {
	var one []api.Range
	for from := range int64(6) {
		for to := range int64(6) {
			one = append(one, api.Range{From: from - 1, To: to - 1})
		}
	}
	can := 0
	for size := int64(-1); size < 5; size++ {
		for _, x := range one {
			for _, y := range one {
				heldValid(t, []api.Range{x, y}, size)
				for _, z := range one {
					if heldValid(t, []api.Range{x, y, z}, size) {
						can++
					}
				}
			}
			heldValid(t, []api.Range{x}, size)
		}
	}
	if can != 1+7+28+84+210 { // of size n: six numbers that do not fall, from 0 to n
		t.Errorf("%d can be", can)
	}
}

// holed is the chapter's bytes: "ab", six zeros, "c".
const holed = "ab\x00\x00\x00\x00\x00\x00c"

// P15.1: the chapter's example, and zeros ahead, behind, between and alone, with each least about their lengths.
func TestFind(t *testing.T) {
	const zeros = "\x00\x00\x00\x00"
	for _, x := range []struct {
		b     string
		least int
		want  []api.Range
	}{
		{holed, 4, ranges(0, 2, 8, 9)},
		{holed, 7, ranges(0, 9)},
		{holed, 5, ranges(0, 2, 8, 9)},
		{holed, 6, ranges(0, 2, 8, 9)},
		{holed, 1, ranges(0, 2, 8, 9)},
		{holed, 0, ranges(0, 2, 8, 9)},
		{holed, -1, ranges(0, 2, 8, 9)},
		{holed, math.MinInt, ranges(0, 2, 8, 9)},
		{holed, math.MaxInt, ranges(0, 9)},

		{"", 0, nil},
		{"", 1, nil},
		{"", math.MinInt, nil},
		{"", math.MaxInt, nil},
		{"a", 1, ranges(0, 1)},
		{"a", 2, ranges(0, 1)},
		{"abc", -5, ranges(0, 3)},
		{"\x00", 0, nil},
		{"\x00", 1, nil},
		{"\x00", 2, ranges(0, 1)},
		{zeros, 3, nil},
		{zeros, 4, nil},
		{zeros, 5, ranges(0, 4)},
		{zeros, math.MaxInt, ranges(0, 4)},

		{zeros + "a", 3, ranges(4, 5)},
		{zeros + "a", 4, ranges(4, 5)},
		{zeros + "a", 5, ranges(0, 5)},
		{"a" + zeros, 3, ranges(0, 1)},
		{"a" + zeros, 4, ranges(0, 1)},
		{"a" + zeros, 5, ranges(0, 5)},
		{"a" + zeros + "b", 3, ranges(0, 1, 5, 6)},
		{"a" + zeros + "b", 4, ranges(0, 1, 5, 6)},
		{"a" + zeros + "b", 5, ranges(0, 6)},
		{zeros + "a" + zeros + "b" + zeros, 4, ranges(4, 5, 9, 10)},
		{zeros + "a" + zeros + "b" + zeros, 5, ranges(0, 14)},
		{zeros + "a" + zeros[1:] + "b" + zeros, 4, ranges(4, 9)},
		{zeros[1:] + "a" + zeros + "b" + zeros[1:], 4, ranges(0, 4, 8, 12)},
		{"a\x00b\x00\x00c\x00\x00\x00d", 1, ranges(0, 1, 2, 3, 5, 6, 9, 10)},
		{"a\x00b\x00\x00c\x00\x00\x00d", 2, ranges(0, 3, 5, 6, 9, 10)},
		{"a\x00b\x00\x00c\x00\x00\x00d", 3, ranges(0, 6, 9, 10)},
		{"a\x00b\x00\x00c\x00\x00\x00d", 4, ranges(0, 10)},
		{"0\x00 \x00\n", 1, ranges(0, 1, 2, 3, 4, 5)}, // the byte 0 alone is a zero
		{"\x80\x00\xff", 1, ranges(0, 1, 2, 3)},
	} {
		if got := sparse.Find([]byte(x.b), x.least); !slices.Equal(got, x.want) {
			t.Errorf("Find(%q, %d): %v", x.b, x.least, got)
		}
		heldFind(t, []byte(x.b), x.least)
	}
	if l := sparse.Find(nil, 1); len(l) != 0 {
		t.Errorf("of nil: %v", l)
	}
}

// P15.1, P15.6, P15.8: all bytes of zeros and ones up to twelve, with every least.
func TestFindSmall(t *testing.T) {
	t.Parallel()
	for n := range 13 {
		for _, s := range texts("\x00\x01", n) {
			for least := -1; least <= n+1; least++ {
				heldFind(t, []byte(s), least)
			}
		}
	}
}

// P15.1, P15.6: more ranges than a map can have are found; of just MaxRanges there and back.
func TestFindMany(t *testing.T) {
	b := bytes.Repeat([]byte("a\x00"), 65537)
	l := sparse.Find(b, 1)
	if !slices.Equal(l, many(65537)) {
		t.Errorf("%d ranges", len(l))
	}
	if data, why := heldJoin(t, b[:4], l); len(data) != 0 || why != api.ErrArg {
		t.Errorf("Join of them: %d", why)
	}
	if data, why := sparse.Join(b, l); len(data) != 0 || why != api.ErrArg {
		t.Errorf("Join of them: %d", why)
	}
	if again, why := sparse.Spread(bytes.Repeat([]byte("a"), 65537), l, 131074); len(again) != 0 || why != api.ErrArg {
		t.Errorf("Spread of them: %d", why)
	}
	b = b[:131072]
	heldRound(t, b, sparse.Find(b, 1))
	if l := sparse.Find(b, 2); !slices.Equal(l, ranges(0, 131072)) {
		t.Errorf("of two: %.200v", l)
	}
}

// P15.1: bytes beyond MaxBlock.
func TestFindLong(t *testing.T) {
	b := make([]byte, api.MaxBlock+9)
	if l := sparse.Find(b, api.MaxBlock); len(l) != 0 {
		t.Errorf("zeros: %v", l)
	}
	b[0], b[api.MaxBlock+8] = 1, 1
	if l := sparse.Find(b, 512); !slices.Equal(l, ranges(0, 1, api.MaxBlock+8, api.MaxBlock+9)) {
		t.Errorf("a byte at each end: %v", l)
	}
	if data, why := sparse.Join(b, ranges(0, 1, api.MaxBlock+7, api.MaxBlock+9)); string(data) != "\x01\x00\x01" || why != api.OK {
		t.Errorf("Join: %q %d", data, why)
	}
}

// P15.2: Join of the chapter's example, of maps with empty ranges, and of maps that can't be.
func TestJoin(t *testing.T) {
	for _, x := range []struct {
		b    string
		l    []api.Range
		want string
		why  api.Errno
	}{
		{holed, ranges(0, 2, 8, 9), "abc", api.OK},
		{holed, ranges(0, 9), holed, api.OK},
		{holed, ranges(0, 2, 2, 2, 2, 9), holed, api.OK},
		{holed, nil, "", api.OK}, // the map need not hold all
		{holed, ranges(1, 3), "b\x00", api.OK},
		{holed, ranges(9, 9), "", api.OK},
		{holed, ranges(0, 0, 1, 2, 2, 2, 8, 9, 9, 9), "bc", api.OK},
		{"", nil, "", api.OK},
		{"", ranges(0, 0), "", api.OK},
		{"", ranges(0, 0, 0, 0), "", api.OK},

		{holed, ranges(0, 10), "", api.ErrArg},
		{holed, ranges(10, 10), "", api.ErrArg},
		{holed, ranges(0, 2, 1, 3), "", api.ErrArg},
		{holed, ranges(8, 9, 0, 2), "", api.ErrArg},
		{holed, ranges(-1, 2), "", api.ErrArg},
		{holed, ranges(3, 2), "", api.ErrArg},
		{holed, ranges(0, 2, 8, 10), "", api.ErrArg},
		{holed, ranges(math.MinInt64, math.MaxInt64), "", api.ErrArg},
		{"", ranges(0, 1), "", api.ErrArg},
		{"", ranges(-1, 0), "", api.ErrArg},
	} {
		if got, why := sparse.Join([]byte(x.b), x.l); string(got) != x.want || why != x.why {
			t.Errorf("Join(%q, %v): %q %d", x.b, x.l, got, why)
		}
		heldJoin(t, []byte(x.b), x.l)
	}
	if data, why := sparse.Join(nil, nil); len(data) != 0 || why != api.OK {
		t.Errorf("of nil: %q %d", data, why)
	}
}

// P15.2: Spread of the chapter's example, of maps with empty ranges, of too many and too few bytes, of maps that can't be.
func TestSpread(t *testing.T) {
	for _, x := range []struct {
		data string
		l    []api.Range
		size int64
		want string
		why  api.Errno
	}{
		{"abc", ranges(0, 2, 8, 9), 9, holed, api.OK},
		{"abc", ranges(0, 2, 8, 9), 11, holed + "\x00\x00", api.OK},
		{"abc", ranges(3, 6), 6, "\x00\x00\x00abc", api.OK},
		{"abc", ranges(0, 0, 1, 2, 2, 2, 2, 4, 5, 5), 5, "\x00abc\x00", api.OK},
		{"", nil, 3, "\x00\x00\x00", api.OK},
		{"", nil, 0, "", api.OK},
		{"", ranges(0, 0), 0, "", api.OK},
		{"", ranges(3, 3), 3, "\x00\x00\x00", api.OK},
		{"\x00a\x00", ranges(1, 4), 4, "\x00\x00a\x00", api.OK},

		{"ab", ranges(0, 2, 8, 9), 9, "", api.ErrArg},
		{"abcd", ranges(0, 2, 8, 9), 9, "", api.ErrArg},
		{"", ranges(0, 2, 8, 9), 9, "", api.ErrArg},
		{"a", nil, 3, "", api.ErrArg},
		{"a", ranges(0, 0), 3, "", api.ErrArg},
		{"", ranges(0, 1), 1, "", api.ErrArg},
		{"abc", ranges(0, 2, 8, 9), 8, "", api.ErrArg},
		{"abc", ranges(0, 2, 1, 2), 9, "", api.ErrArg},
		{"abc", ranges(8, 9, 0, 2), 9, "", api.ErrArg},
		{"abc", ranges(-1, 2), 9, "", api.ErrArg},
		{"", ranges(3, 2), 9, "", api.ErrArg},
		{"a", ranges(0, 2, 4, 3), 9, "", api.ErrArg},
		{"", nil, -1, "", api.ErrArg},
		{"", nil, math.MinInt64, "", api.ErrArg},
		{"", nil, api.MaxBlock + 1, "", api.ErrArg},
		{"", nil, api.MaxSize, "", api.ErrArg},
		{"a", ranges(0, 1), api.MaxBlock + 1, "", api.ErrArg},
		{"", ranges(0, api.MaxSize), api.MaxSize, "", api.ErrArg},
		{"", ranges(math.MinInt64, math.MaxInt64), 9, "", api.ErrArg},
		{"", ranges(-1, math.MaxInt64), api.MaxSize, "", api.ErrArg},
	} {
		if got, why := sparse.Spread([]byte(x.data), x.l, x.size); string(got) != x.want || why != x.why {
			t.Errorf("Spread(%q, %v, %d): %q %d", x.data, x.l, x.size, got, why)
		}
		heldSpread(t, []byte(x.data), x.l, x.size)
	}
	if b, why := sparse.Spread(nil, nil, 2); string(b) != "\x00\x00" || why != api.OK {
		t.Errorf("of nil: %q %d", b, why)
	}
}

// P15.2: a size of MaxBlock, and one more, with all of it data and with hardly any.
func TestSpreadLong(t *testing.T) {
	const most = 1 << 22
	for _, n := range []int64{0, 1, 513, most} {
		data := bytes.Repeat([]byte("d"), int(n))
		want := append(make([]byte, most-n), data...)
		if b, why := sparse.Spread(data, ranges(most-n, most), most); !bytes.Equal(b, want) || why != api.OK {
			t.Errorf("%d bytes of data: %d", n, why)
		}
		if b, why := sparse.Spread(data, ranges(most-n, most), most+1); len(b) != 0 || why != api.ErrArg {
			t.Errorf("%d bytes of data, one more: %d", n, why)
		}
	}
	data := bytes.Repeat([]byte("d"), most+1)
	if b, why := sparse.Spread(data, ranges(0, most+1), most+1); len(b) != 0 || why != api.ErrArg {
		t.Errorf("all and one more: %d", why)
	}
	if b, why := sparse.Spread(data, ranges(0, most), most); len(b) != 0 || why != api.ErrArg {
		t.Errorf("a byte too many: %d", why)
	}
	if b, why := sparse.Spread(data[:most-1], ranges(0, most), most); len(b) != 0 || why != api.ErrArg {
		t.Errorf("a byte too few: %d", why)
	}
}

// P15.2: all small maps and lists that are none, over a few bytes; data of each length.
func TestJoinSpreadSmall(t *testing.T) {
	t.Parallel()
	const plain = "abcd"
	var one []api.Range
	for from := int64(-1); from <= 5; from++ {
		for to := int64(-1); to <= 5; to++ {
			one = append(one, api.Range{From: from, To: to})
		}
	}
	for _, x := range one {
		for _, y := range one {
			l := []api.Range{x, y}
			for n := range len(plain) + 1 {
				heldJoin(t, []byte(plain[:n]), l)
				for size := int64(-1); size <= 5; size++ {
					heldSpread(t, []byte(plain[:n]), l, size)
				}
			}
		}
	}
}

// P15.6: maps by chance that hold all bytes but zeros, and such as do not.
func TestRoundChance(t *testing.T) {
	t.Parallel()
	r := rand.New(rand.NewSource(15))
	for range 3000 {
		b := make([]byte, r.Intn(300))
		for range r.Intn(9) {
			from := r.Intn(len(b) + 1)
			r.Read(b[from : from+r.Intn(min(len(b)-from, 40)+1)])
		}
		l := heldFind(t, b, r.Intn(50)-2)
		heldRound(t, b, wider(r, l, int64(len(b))))

		places := make([]int64, 2*r.Intn(6))
		for i := range places {
			places[i] = int64(r.Intn(len(b) + 1))
		}
		slices.Sort(places)
		l = ranges(places...)
		data, _ := heldJoin(t, b, l)
		again, why := heldSpread(t, data, l, int64(len(b)))
		if why != api.OK {
			t.Fatalf("Spread of Join(%q, %v): %d", b, l, why)
		}
		for i, c := range again {
			if within(l, int64(i)) && c != b[i] || !within(l, int64(i)) && c != 0 {
				t.Fatalf("Spread of Join(%q, %v): %d at %d", b, l, c, i)
			}
		}
	}
}

// wider is the map with empty ranges, ranges cut in two and zeros taken in, by chance.
func wider(r *rand.Rand, l []api.Range, size int64) []api.Range {
	var more []api.Range
	var end int64
	for _, x := range append(slices.Clone(l), api.Range{From: size, To: size}) {
		switch r.Intn(4) {
		case 0:
			x.From -= r.Int63n(x.From - end + 1)
		case 1:
			at := end + r.Int63n(x.From-end+1)
			more = append(more, api.Range{From: at, To: at})
		case 2:
			at := x.From + r.Int63n(x.To-x.From+1)
			more = append(more, api.Range{From: x.From, To: at})
			x.From = at
		}
		more = append(more, x)
		end = x.To
	}
	return more
}

// The rule of memory: an answer of Join or Spread that holds all of what was handed in is new, too.
func TestNewMemory(t *testing.T) {
	b := []byte(strings.Repeat("all", 100))
	data, _ := sparse.Join(b, ranges(0, 300))
	again, _ := sparse.Spread(data, ranges(0, 300), 300)
	spoil(data, mark)
	if string(b) != strings.Repeat("all", 100) || string(again) != string(b) {
		t.Error("shared")
	}
}
