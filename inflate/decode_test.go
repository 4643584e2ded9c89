package inflate_test

import (
	"math"
	"strings"
	"testing"

	"satchel/api"
	"satchel/inflate"
)

// P6.1: the chapter's examples.
func TestDecodeExamples(t *testing.T) {
	for _, x := range []struct {
		b     string
		most  int
		plain string
		n     int
		why   api.Errno
	}{
		{"\x03\x00", 9, "", 2, api.OK},
		{"\x4b\x04\x00", 9, "a", 3, api.OK},
		{"\x01\x01\x00\xfe\xff\x61", 9, "a", 6, api.OK},
		{"\x07", 9, "", 0, api.ErrKindOf},
		{"", 9, "", 0, api.ErrShort},
		{"\x01\x01\x00\xfe\xfe", 9, "", 0, api.ErrStored},
		{"\x4b\x04\x00", 0, "", 0, api.ErrPlain},
		{"\x4b\x04", 9, "", 0, api.ErrShort},
		{"\x04" + strings.Repeat("\x00", 20), 9, "", 0, api.ErrLengths},
		{"\x03\x02", 9, "", 0, api.ErrDistance},
	} {
		plain, n, why := inflate.Decode([]byte(x.b), x.most)
		if string(plain) != x.plain || n != x.n || why != x.why {
			t.Errorf("%x, at most %d: %q %d %d", x.b, x.most, plain, n, why)
		}
		held(t, []byte(x.b), x.most)
	}
}

// P6.1, P6.2: most out of its range is refused ahead of all else; at its ends it is not.
func TestMost(t *testing.T) {
	for _, most := range []int{math.MinInt, -1, api.MaxBlock + 1, math.MaxInt} {
		for _, b := range []string{"", "\x03\x00", "\x07", "\x03\x02", "\x01\x01\x00\xfe\xfe"} {
			if plain, n, why := inflate.Decode([]byte(b), most); plain != nil || n != 0 || why != api.ErrArg {
				t.Errorf("Decode of %x, at most %d: %x %d %d", b, most, plain, n, why)
			}
		}
		if r, why := inflate.NewReader(most); r != nil || why != api.ErrArg {
			t.Errorf("NewReader(%d): %v %d", most, r, why)
		}
	}
	for _, most := range []int{0, 1, api.MaxBlock} {
		for _, b := range []string{"", "\x03\x00", "\x07", "\x01\x00\x00\xff\xff", "\x01\x01\x00\xfe\xff\x61"} {
			held(t, []byte(b), most)
		}
	}
}

// P6.1 to P6.8: all streams of up to two bytes, and those of three that begin with a fixed block of a byte.
func TestAllShortStreams(t *testing.T) {
	held(t, nil, 9)
	for first := range 256 {
		held(t, []byte{byte(first)}, 9)
		for second := range 256 {
			b := []byte{byte(first), byte(second)}
			held(t, b, 300)
			for most := range 2 {
				heldDecode(t, newModel(b, most), b)
			}
		}
	}
	for more := range 1 << 13 {
		b := bytesOf(head(true, 1) + fixed().bytes("a") + num(more, 13))
		m := newModel(b, 9)
		heldDecode(t, m, b)
		heldPieces(t, m, b, []int{1, 1, 1})
	}
}

// 6.1: each kind of a block, at the beginning and behind blocks of each kind.
func TestKinds(t *testing.T) {
	f := fixed()
	some := lengthsWith(257, map[int]int{'x': 1, 256: 1})
	row, g := own(false, some, []int{0})
	last, _ := own(true, some, []int{0})
	for _, ahead := range []struct{ row, plain string }{
		{"", ""},
		{storedBehind("", false, []byte("ab")), "ab"},
		{head(false, 1) + f.bytes("abc") + f.end(), "abc"},
		{row + g.bytes("xx") + g.end(), "xx"},
		{row + g.bytes("x") + g.end() + head(false, 1) + f.bytes("y") + f.end() + row + g.bytes("x") + g.end(), "xyx"},
	} {
		for _, x := range []struct {
			row, plain string
			why        api.Errno
		}{
			{storedBehind(ahead.row, true, []byte("cd")), "cd", api.OK},
			{ahead.row + head(true, 1) + f.bytes("cd") + f.end(), "cd", api.OK},
			{ahead.row + last + g.bytes("x") + g.end(), "x", api.OK},
			{ahead.row + head(true, 3), "", api.ErrKindOf},
			{ahead.row + head(false, 3), "", api.ErrKindOf},
		} {
			if m := held(t, bytesOf(x.row), 9); string(m.plain) != ahead.plain+x.plain || m.why != x.why || m.at != len(x.row) {
				t.Errorf("behind %q: %q %d, not %q %d", ahead.plain, m.plain, m.why, x.plain, x.why)
			}
		}
	}
	wanted(t, "kind 3", head(true, 3), 0, "", api.ErrKindOf)
	wanted(t, "kind 3, not last", head(false, 3), 0, "", api.ErrKindOf)
}

// lengthsWith is n lengths, all 0 but these.
func lengthsWith(n int, some map[int]int) []int {
	l := make([]int, n)
	for symbol, length := range some {
		l[symbol] = length
	}
	return l
}

// 6.1, P6.8: stored blocks at each place within a byte, cut at every byte, with every bit of the two bytes more turned.
func TestStored(t *testing.T) {
	for place := range 8 {
		for _, n := range []int{0, 1, 2, 255, 256, 65534, 65535} {
			if n > 1 && n < 65535 && place != 3 {
				continue
			}
			plain := noise(int64(n), n)
			for _, last := range []bool{true, false} {
				row := storedBehind(filler(place), last, plain)
				why := api.ErrShort
				if last {
					why = api.OK
				}
				if m := held(t, bytesOf(row), n); m.why != why || string(m.plain) != string(plain) {
					t.Fatalf("%d stored at %d: %d, %d bytes", n, place, m.why, len(m.plain))
				}
				if n > 0 {
					storedTooMany(t, row, n)
				}
			}
			storedTurned(t, storedBehind(filler(place), true, plain), n)
		}
	}
}

// storedTooMany holds a stored block to ErrPlain, behind its four bytes, with none of its plain bytes told.
func storedTooMany(t *testing.T, row string, n int) {
	t.Helper()
	from := len(row)/8 - n
	b := bytesOf(row)
	for _, cut := range []int{from, from + 1, len(b)} {
		if m := held(t, b[:cut], n-1); m.why != api.ErrPlain || len(m.plain) != 0 || m.at != 8*from {
			t.Fatalf("%d stored, at most %d: %d, %d bytes", n, n-1, m.why, len(m.plain))
		}
	}
	if m := held(t, b[:from-1], n-1); m.why != api.ErrShort {
		t.Fatalf("%d stored, a byte of four missing: %d", n, m.why)
	}
}

// storedTurned turns each bit of the two bytes more, and both bytes.
func storedTurned(t *testing.T, row string, n int) {
	t.Helper()
	b := bytesOf(row)
	b = b[:min(len(b), len(b)-n+4)]
	from := len(row)/8 - n - 2
	for bit := range 17 {
		wrong := append([]byte(nil), b...)
		if bit < 16 {
			wrong[from+bit/8] ^= 1 << (bit % 8)
		} else {
			wrong[from], wrong[from+1] = b[from-2], b[from-1]
		}
		for _, cut := range []int{from + 2, len(wrong)} {
			for _, most := range []int{0, api.MaxBlock} {
				if m := held(t, wrong[:cut], most); m.why != api.ErrStored || m.at != 8*from+16 {
					t.Fatalf("%d stored, bit %d turned: %d", n, bit, m.why)
				}
			}
		}
		for cut := from - 2; cut < from+2; cut++ {
			if m := held(t, wrong[:cut], 0); m.why != api.ErrShort {
				t.Fatalf("%d stored, bit %d turned, cut at %d: %d", n, bit, cut, m.why)
			}
		}
	}
}

// 6.1: every length's symbol with all its further bits, in the fixed code and in one of its own.
func TestLengths(t *testing.T) {
	symbols := lengthsWith(286, map[int]int{'q': 5, 256: 5})
	for symbol := 257; symbol <= 285; symbol++ {
		symbols[symbol] = 5
	}
	symbols[285] = 4
	for symbol := 257; symbol <= 285; symbol++ {
		n := lengthBits[symbol-257]
		for more := range 1 << n {
			length := lengthBase[symbol-257] + more
			f := fixed()
			row := head(true, 1) + f.bytes("q") + f.match(symbol, more, 0, 0) + f.end()
			ownRow, g := own(true, symbols, []int{1})
			for _, row := range []string{row, ownRow + g.bytes("q") + g.match(symbol, more, 0, 0) + g.end()} {
				if more > 0 && more < 1<<n-1 {
					if m := newModel(bytesOf(row), 300); m.why != api.OK || len(m.plain) != 1+length {
						t.Errorf("%d, further bits %d: %d, %d bytes", symbol, more, m.why, len(m.plain))
					}
					heldDecode(t, newModel(bytesOf(row), 300), bytesOf(row))
					continue
				}
				wanted(t, "a length", row, 300, strings.Repeat("q", 1+length), api.OK)
			}
		}
	}
}

// 6.1: the table's own rows, by the sums that it tells.
func TestTables(t *testing.T) {
	f := fixed()
	for _, x := range []struct{ symbol, more, length int }{
		{257, 0, 3}, {264, 0, 10}, {265, 0, 11}, {265, 1, 12}, {266, 0, 13}, {268, 1, 18}, {269, 0, 19}, {269, 3, 22}, {272, 3, 34}, {273, 0, 35}, {274, 0, 43}, {276, 7, 66},
		{277, 0, 67}, {278, 0, 83}, {280, 15, 130}, {281, 0, 131}, {282, 0, 163}, {284, 0, 227}, {284, 30, 257}, {284, 31, 258}, {285, 0, 258},
	} {
		row := head(true, 1) + f.bytes("z") + f.match(x.symbol, x.more, 0, 0) + f.end()
		if plain, _, why := inflate.Decode(bytesOf(row), 300); why != api.OK || len(plain) != 1+x.length {
			t.Errorf("%d, further bits %d: %d bytes, %d", x.symbol, x.more, len(plain)-1, why)
		}
	}
	ahead := noise(1, 32768)
	for _, x := range []struct{ far, more, distance int }{
		{0, 0, 1}, {3, 0, 4}, {4, 0, 5}, {4, 1, 6}, {5, 0, 7}, {5, 1, 8}, {6, 0, 9}, {7, 0, 13}, {7, 3, 16}, {8, 0, 17}, {28, 0, 16385}, {28, 8191, 24576}, {29, 0, 24577}, {29, 8191, 32768},
	} {
		row := storedBehind("", false, ahead) + head(true, 1) + f.match(257, 0, x.far, x.more) + f.end()
		plain, _, why := inflate.Decode(bytesOf(row), api.MaxBlock)
		if why != api.OK || len(plain) != 32771 || plain[32768] != ahead[32768-x.distance] {
			t.Errorf("%d, further bits %d: %d bytes, %d", x.far, x.more, len(plain), why)
		}
	}
}

// 6.1: every distance's symbol with its least and its greatest further bits: of all plain bytes that there are, and of one more.
func TestDistances(t *testing.T) {
	for far := range 30 {
		for _, more := range []int{0, 1<<farBits[far] - 1} {
			distance := farBase[far] + more
			plain := noise(int64(far), distance)
			symbols := lengthsWith(286, map[int]int{256: 2, 257: 2, 285: 1})
			row, g := own(true, symbols, lengthsWith(30, map[int]int{far: 1}))
			for _, body := range []string{
				head(true, 1) + fixed().match(257, 0, far, more) + fixed().end(),
				head(true, 1) + fixed().match(285, 0, far, more) + fixed().end(),
				row + g.match(285, 0, far, more) + g.end(),
			} {
				b := bytesOf(storedBehind("", false, plain) + body)
				if m := held(t, b, distance+258); m.why != api.OK || string(m.plain[distance:distance+min(distance, 3)]) != string(plain[:min(distance, 3)]) {
					t.Fatalf("a distance of %d: %d", distance, m.why)
				}
				b = bytesOf(storedBehind("", false, plain[1:]) + body)
				if m := held(t, b, distance+258); m.why != api.ErrDistance || string(m.plain) != string(plain[1:]) {
					t.Fatalf("a distance of %d where there is less: %d", distance, m.why)
				}
			}
		}
	}
}

// 6.1: distances up to the greatest one, where many more plain bytes are there.
func TestDistancesFarBehind(t *testing.T) {
	f := fixed()
	row := ""
	for i := range 3 {
		row = storedBehind(row, false, noise(int64(i), 20000+i))
	}
	row += head(true, 1)
	for _, x := range [][2]int{{29, 8191}, {29, 8190}, {0, 0}, {29, 8191}, {28, 0}, {29, 0}, {10, 3}, {29, 8191}} {
		row += f.match(285, 0, x[0], x[1]) + f.bytes("k")
	}
	if m := held(t, bytesOf(row+f.end()), api.MaxBlock); m.why != api.OK || len(m.plain) != 60003+8*259 {
		t.Error(m.why, len(m.plain))
	}
}

// 6.1: a match that reaches into what it copies.
func TestMatchesIntoThemselves(t *testing.T) {
	f := fixed()
	for _, x := range []struct {
		ahead, body, plain string
	}{
		{"a", f.match(257, 0, 0, 0), "aaaa"},
		{"ab", f.match(259, 0, 1, 0), "abababa"},
		{"abc", f.match(264, 0, 2, 0), "abcabcabcabca"},
		{"abcd", f.match(257, 0, 2, 0), "abcdbcd"},
		{"xabc", f.match(258, 0, 2, 0) + f.match(258, 0, 3, 0), "xabcabcaabca"},
		{"abcde", f.match(260, 0, 4, 0), "abcdeabcdea"},
	} {
		wanted(t, x.ahead, head(true, 1)+f.bytes(x.ahead)+x.body+f.end(), 300, x.plain, api.OK)
	}
	row := head(true, 1) + f.bytes("ab") + f.match(285, 0, 1, 0) + f.end()
	wanted(t, "258 of two", row, 260, strings.Repeat("ab", 130), api.OK)
}

// 6.1, ErrWord: the symbols and distances that say nothing, ahead of anything behind them.
func TestWordsThatSayNothing(t *testing.T) {
	f := fixed()
	for _, most := range []int{1, 300} {
		for _, symbol := range []string{f.symbols[286], f.symbols[287]} {
			wanted(t, "no such symbol", head(true, 1)+f.bytes("a")+symbol, most, "a", api.ErrWord)
		}
		for _, far := range []string{f.far[30], f.far[31]} {
			wanted(t, "no such distance", head(true, 1)+f.bytes("a")+f.length(257, 0)+far, most, "a", api.ErrWord)
			wanted(t, "no such distance behind further bits", head(false, 1)+f.bytes("a")+f.length(284, 31)+far, most, "a", api.ErrWord)
		}
	}
	wanted(t, "no such symbol, and nothing ahead", head(false, 1)+f.symbols[286], 0, "", api.ErrWord)
	wanted(t, "no such distance, and nothing ahead", head(false, 1)+f.length(257, 0)+f.far[31], 0, "", api.ErrWord)
}

// 6.1, ErrPlain: plain bytes of just most and of one more, of each kind.
func TestPlainBytesOfMost(t *testing.T) {
	f := fixed()
	abc := head(true, 1) + f.bytes("abc")
	wanted(t, "bytes of most", abc+f.end(), 3, "abc", api.OK)
	wanted(t, "a byte more", abc, 2, "ab", api.ErrPlain)
	wanted(t, "a byte where none may be", head(true, 1)+f.bytes("a"), 0, "", api.ErrPlain)
	wanted(t, "a match of most", abc+f.match(259, 0, 2, 0)+f.end(), 8, "abcabcab", api.OK)
	wanted(t, "a match of one more", abc+f.match(259, 0, 2, 0), 7, "abc", api.ErrPlain)
	wanted(t, "a match of many more", abc+f.match(285, 0, 1, 0), 3, "abc", api.ErrPlain)
	wanted(t, "the end at most", head(true, 1)+f.end(), 0, "", api.OK)
	for most, want := range []string{"", "a", "ab", "abc", "abc", "abc", "abc", "abcdefg"} {
		why := api.ErrPlain
		if most == 7 {
			why = api.OK
		}
		row := storedBehind(head(false, 1)+f.bytes("abc")+f.end(), true, []byte("defg"))
		if m := held(t, bytesOf(row), most); string(m.plain) != want || m.why != why {
			t.Errorf("four stored behind three, at most %d: %q %d", most, m.plain, m.why)
		}
	}
	plainBytesOfMaxBlock(t)
}

// plainBytesOfMaxBlock has just so many, and then one more of each kind.
func plainBytesOfMaxBlock(t *testing.T) {
	t.Helper()
	f := fixed()
	whole := storedBehind("", false, noise(3, 65535))
	row := strings.Repeat(whole, 64) + storedBehind("", false, noise(4, 64))
	for _, x := range []struct {
		more string
		why  api.Errno
	}{
		{head(true, 1) + f.end(), api.OK},
		{head(true, 1) + f.bytes("a"), api.ErrPlain},
		{head(true, 1) + f.match(257, 0, 29, 8191), api.ErrPlain},
		{storedBehind("", true, nil), api.OK},
		{storedBehind("", true, []byte("a")), api.ErrPlain},
	} {
		b := bytesOf(row + x.more)
		m := newModel(b, api.MaxBlock)
		if m.why != x.why || len(m.plain) != api.MaxBlock {
			t.Fatal(m.why, len(m.plain))
		}
		heldDecode(t, m, b)
		heldPieces(t, m, b, randomPieces(len(b)))
	}
}

// 6.1: of two errors that could be told, the one whose bits are read first; behind the same bits, the one that is named first.
func TestFirstError(t *testing.T) {
	f := fixed()
	wanted(t, "the distance ahead of most", head(true, 1)+f.bytes("a")+f.match(257, 0, 1, 0), 1, "a", api.ErrDistance)
	wanted(t, "the distance ahead of most, nothing there", head(true, 1)+f.match(285, 0, 0, 0), 0, "", api.ErrDistance)
	wanted(t, "a word that says nothing ahead of most", head(true, 1)+f.bytes("a")+f.length(285, 0)+f.far[30], 1, "a", api.ErrWord)
	wanted(t, "a byte too many ahead of the kind 3", head(true, 1)+f.bytes("a"), 0, "", api.ErrPlain)
	wanted(t, "a word that says nothing ahead of a byte too many", head(true, 1)+f.symbols[286], 0, "", api.ErrWord)
	nine := up(head(true, 0), "0") + num(9, 16)
	for _, x := range []struct {
		name, row string
		most      int
		why       api.Errno
	}{
		{"the two bytes more ahead of most", nine + num(0, 16), 1, api.ErrStored},
		{"most ahead of bytes that are not there", nine + num(65535-9, 16) + rowOf([]byte("abc")), 8, api.ErrPlain},
		{"the end ahead of the two bytes more", nine + num(0, 8), 1, api.ErrShort},
		{"L ahead of the lengths of lengths", head(true, 2) + num(31, 5) + num(0, 5) + num(0, 4), 9, api.ErrLengths},
		{"the end ahead of L", (head(true, 2) + num(31, 5) + num(0, 5) + num(0, 4))[:16], 9, api.ErrShort},
	} {
		if m := held(t, bytesOf(x.row), x.most); m.why != x.why {
			t.Errorf("%s: %d, not %d", x.name, m.why, x.why)
		}
	}
}
