package lz_test

import (
	"bytes"
	"math"
	"math/rand"
	"slices"
	"strings"
	"testing"

	"satchel/api"
	"satchel/lz"
)

// P3.1, P3.4: the chapter's examples, and one fault of each kind at its place.
func TestDecodeAndParseOfTheExamples(t *testing.T) {
	long := "a" + strings.Repeat("a", 22) + "bbbbb"
	for _, c := range []struct {
		block, ahead string
		most         int
		want         string
		at           int
		why          api.Errno
	}{
		{"00", "", 0, "", 0, api.OK},
		{"10 61", "", 1, "a", 0, api.OK},
		{"10 61", "", 0, "", 1, api.ErrPlain},
		{"1f 61 01 00 03 50 62 62 62 62 62", "", 28, long, 0, api.OK},
		{"1f 61 01 00 03 50 62 62 62 62 62", "", 27, "", 6, api.ErrPlain},
		{"1f 61 01 00 03 50 62 62 62 62 62", "", 23, "", 6, api.ErrPlain},
		{"1f 61 01 00 03 50 62 62 62 62 62", "", 22, "", 2, api.ErrPlain},
		{"1f 61 01 00 03 50 62 62 62 62 62", "", 1, "", 2, api.ErrPlain},
		{"1f 61 01 00 03 50 62 62 62 62 62", "", 0, "", 1, api.ErrPlain},
		{"", "", 9, "", 0, api.ErrShort},
		{"10", "", 9, "", 1, api.ErrShort},
		{"01", "", 9, "", 0, api.ErrEnd},
		{"11 61", "", 9, "", 0, api.ErrEnd},
		{"11 61 00 00", "", 99, "", 2, api.ErrOffset},
		{"11 61 02 00 00", "", 99, "", 2, api.ErrOffset},
		{"11 61 02 00 00", "7a", 99, "azazaz", 0, api.OK},
		{"00 01 00 00", "79 7a", 99, "zzzz", 0, api.OK},
		{"00 02 00 00", "79 7a", 99, "yzyz", 0, api.OK},
		{"00 03 00 00", "79 7a", 99, "", 1, api.ErrOffset},
	} {
		out, at, why := lz.Decode(bin(c.block), bin(c.ahead), c.most)
		if string(out) != c.want || at != c.at || why != c.why {
			t.Errorf("Decode of %s at most %d: %q %d %d", c.block, c.most, out, at, why)
		}
		held(t, bin(c.block), bin(c.ahead), c.most)
	}
}

// P3.4: where two errors apply to one sequence, the one that is named first.
func TestDecodeAnswersTheFirstErrorOfASequence(t *testing.T) {
	for _, c := range []struct {
		name, block, ahead string
		most               int
		at                 int
		why                api.Errno
	}{
		{"the number of Plain is cut, and there is no room", "f0 ff ff", "", 3, 3, api.ErrShort},
		{"no room, and Plain is cut", "f0 ff 00 61", "", 3, 3, api.ErrPlain},
		{"no room for Plain, and the last token is not one", "11 61", "", 0, 1, api.ErrPlain},
		{"no room for Plain, and Back is 0", "11 61 00 00", "", 0, 1, api.ErrPlain},
		{"Plain is cut, and the token is not a last one", "21 61", "", 9, 2, api.ErrShort},
		{"the two bytes are cut, and there is no room for the match", "11 61 05", "", 1, 3, api.ErrShort},
		{"Back is 0, and the number of the match is cut", "1f 61 00 00 ff", "", 99, 2, api.ErrOffset},
		{"Back is 0, and there is no room for the match", "11 61 00 00 00", "", 1, 2, api.ErrOffset},
		{"the match begins ahead of ahead, and its number is cut", "1f 61 03 00 ff", "7a", 99, 2, api.ErrOffset},
		{"the match begins ahead of ahead, and there is no room", "11 61 03 00 00", "7a", 1, 2, api.ErrOffset},
		{"the number of the match is cut, and there is no room", "1f 61 01 00 ff", "", 1, 5, api.ErrShort},
		{"no room for the match, and nothing comes behind it", "11 61 01 00", "", 5, 2, api.ErrPlain},
		{"room for the match, and nothing comes behind it", "11 61 01 00", "", 6, 4, api.ErrShort},
		{"a fault of the second sequence, and one of the third", "10 61 01 00 10 62 09 00 01", "", 99, 6, api.ErrOffset},
	} {
		out, at, why := lz.Decode(bin(c.block), bin(c.ahead), c.most)
		if out != nil || at != c.at || why != c.why {
			t.Errorf("%s: %x %d %d", c.name, out, at, why)
		}
	}
}

// P3.1, P3.9: what Parse asks not: room, ahead, and whether a block ends as one.
func TestParseAsksTheFormAlone(t *testing.T) {
	l, at, why := lz.Parse(bin("00 ff ff 00 0f 01 00 00 00"))
	if why != api.ErrOffset || l != nil || at != 7 {
		t.Error(l, at, why)
	}
	l, at, why = lz.Parse(bin("00 ff ff 00"))
	want := []api.Seq{{Back: 65535, Length: 4}, {}}
	if !same(l, want) || at != 0 || why != api.OK {
		t.Error(l, at, why)
	}
	l, _, why = lz.Parse(bin("1f 61 01 00 03 50 62 62 62 62 62"))
	want = []api.Seq{{Plain: []byte("a"), Back: 1, Length: 22}, {Plain: []byte("bbbbb")}}
	if !same(l, want) || why != api.OK {
		t.Error(l, why)
	}
	// A match of more than MaxBlock bytes is parsed, not made, and not played.
	huge := append(bin("0f 01 00"), bytes.Repeat([]byte{255}, 20000)...)
	huge = append(huge, 0, 0)
	l, _, why = lz.Parse(huge)
	if why != api.OK || len(l) != 2 || l[0].Length != 20000*255+19 {
		t.Fatal(len(l), why)
	}
	if b, why := lz.Make(l); b != nil || why != api.ErrLong {
		t.Error(len(b), why)
	}
	if b, why := lz.Play(l, []byte{1}, api.MaxBlock); b != nil || why != api.ErrPlain {
		t.Error(len(b), why)
	}
	if b, at, why := lz.Decode(huge, []byte{1}, api.MaxBlock); b != nil || at != 1 || why != api.ErrPlain {
		t.Error(len(b), at, why)
	}
}

// P3.1, P3.4, P3.9, P3.10: every block of two bytes, and every one of up to six of bytes that matter.
func TestSmallBlocksAgainstTheModel(t *testing.T) {
	for n := range 1 << 16 {
		b := []byte{byte(n), byte(n >> 8)}
		held(t, b, []byte("xy"), n%5)
		held(t, b[:1], nil, n%20)
	}
	letters := bin("00 01 02 0f 10 11 1f f0 ff")
	var grow func(b []byte)
	grow = func(b []byte) {
		held(t, b, []byte("xy")[:len(b)%3], 4+13*(len(b)%5))
		if len(b) == 6 {
			return
		}
		for _, x := range letters {
			grow(append(b[:len(b):len(b)], x))
		}
	}
	grow(nil)
}

// edges are the numbers at which a sequence's bytes change.
func edges() []int {
	var l []int
	for _, n := range []int{0, 15, 15 + 255, 15 + 2*255, 15 + 3*255} {
		l = append(l, n-1, n, n+1)
	}
	return l[1:]
}

// P3.1 to P3.4, P3.9: numbers just below, at and above those that take one byte more, cut at every place, and with most just enough and one too few.
func TestNumbersAtTheirEdges(t *testing.T) {
	ahead := []byte("what came ahead")
	for _, n := range edges() {
		for _, m := range edges() {
			l := []api.Seq{
				{Plain: bytes.Repeat([]byte("p"), n), Back: 3, Length: m + 4},
				{Back: 15, Length: 4},
				{Plain: bytes.Repeat([]byte("q"), m)},
			}
			b, why := lz.Make(l)
			if why != api.OK || !bytes.Equal(b, modelMake(l)) {
				t.Fatalf("Make with %d and %d: %x %d", n, m, short(b), why)
			}
			if again, at, why := lz.Parse(b); why != api.OK || at != 0 || !same(again, l) {
				t.Fatalf("Parse of Make with %d and %d: %d %d", n, m, at, why)
			}
			size := n + m + 4 + 4 + m
			held(t, b, ahead, size)
			held(t, b, ahead, size-1)
			held(t, b, ahead, n+m+3)
			held(t, b, ahead, n)
			held(t, b, ahead, max(n-1, 0))
			for cut := 0; cut < len(b); cut += 1 + min(cut, len(b)-cut)/30 {
				held(t, b[:cut], ahead, size)
			}
			held(t, append(b, 0), ahead, size)
			held(t, append(b, 0, 0), ahead, size)
		}
	}
}

// P3.2: of Make's bytes what stands where.
func TestMakeIsTheSequencesBytes(t *testing.T) {
	for _, c := range []struct {
		plain, length int
		head, tail    string
	}{
		{0, 4, "00", ""}, {14, 18, "ee", ""}, {15, 19, "ff 00", "00"}, {16, 20, "ff 01", "01"},
		{269, 273, "ff fe", "fe"}, {270, 274, "ff ff 00", "ff 00"}, {271, 275, "ff ff 01", "ff 01"},
		{524, 528, "ff ff fe", "ff fe"}, {525, 529, "ff ff ff 00", "ff ff 00"}, {526, 530, "ff ff ff 01", "ff ff 01"},
	} {
		plain := bytes.Repeat([]byte("x"), c.plain)
		want := slices.Concat(bin(c.head), plain, bin("34 12"), bin(c.tail), bin("00"))
		b, why := lz.Make([]api.Seq{{Plain: plain, Back: 0x1234, Length: c.length}, {}})
		if why != api.OK || !bytes.Equal(b, want) {
			t.Errorf("%d and %d: %x %d", c.plain, c.length, short(b), why)
		}
	}
}

// P3.2, P3.3: what can't be made.
func TestMakeAndPlayRefuse(t *testing.T) {
	can := api.Seq{Plain: []byte("a"), Back: 1, Length: 4}
	for i, l := range [][]api.Seq{
		nil,
		{},
		{can},
		{{Plain: []byte("a"), Length: 5}},
		{{Plain: []byte("a"), Back: 5}},
		{can, {Back: -1}},
		{can, {Length: -1}},
		{{}, {}},
		{can, {Plain: []byte("a")}, {}},
		{{Back: 0, Length: 4}, {}},
		{{Back: -1, Length: 4}, {}},
		{{Back: 65536, Length: 4}, {}},
		{{Back: math.MaxInt, Length: 4}, {}},
		{{Back: math.MinInt, Length: 4}, {}},
		{{Back: 1, Length: 3}, {}},
		{{Back: 1, Length: 0}, {}},
		{{Back: 1, Length: -4}, {}},
		{{Back: 1, Length: math.MinInt}, {}},
		{{Plain: make([]byte, api.MaxBlock+1), Back: 1, Length: 4}, {Length: 1}},
	} {
		if b, why := lz.Make(l); b != nil || why != api.ErrArg {
			t.Errorf("Make of list %d: %x %d", i, short(b), why)
		}
		if b, why := lz.Play(l, []byte("a"), api.MaxBlock); b != nil || why != api.ErrArg {
			t.Errorf("Play of list %d: %x %d", i, short(b), why)
		}
	}
	for _, most := range []int{-1, math.MinInt, api.MaxBlock + 1, math.MaxInt} {
		if b, why := lz.Play([]api.Seq{{}}, nil, most); b != nil || why != api.ErrArg {
			t.Errorf("Play at most %d: %x %d", most, b, why)
		}
		if b, at, why := lz.Decode(bin("00"), nil, most); b != nil || at != 0 || why != api.ErrArg {
			t.Errorf("Decode at most %d: %x %d %d", most, b, at, why)
		}
		if b, at, why := lz.Decode(nil, nil, most); b != nil || at != 0 || why != api.ErrArg {
			t.Errorf("Decode of nothing at most %d: %x %d %d", most, b, at, why)
		}
	}
	for _, most := range []int{0, api.MaxBlock} {
		if b, why := lz.Play([]api.Seq{{}}, nil, most); len(b) != 0 || why != api.OK {
			t.Errorf("Play at most %d: %x %d", most, b, why)
		}
	}
}

// P3.2, P3.3: as many bytes as a block may come to, one more, and so many that their sum wraps.
func TestMakeOfLongLists(t *testing.T) {
	plain := make([]byte, api.MaxBlock)
	for i, c := range []struct {
		l    []api.Seq
		make api.Errno
		play api.Errno
	}{
		{[]api.Seq{{Plain: plain}}, api.OK, api.OK},
		{[]api.Seq{{Plain: append(plain, 0)}}, api.ErrLong, api.ErrPlain},
		{[]api.Seq{{Plain: plain[:1], Back: 1, Length: api.MaxBlock - 1}, {}}, api.OK, api.OK},
		{[]api.Seq{{Plain: plain[:1], Back: 1, Length: api.MaxBlock}, {}}, api.ErrLong, api.ErrPlain},
		{[]api.Seq{{Plain: plain[:1], Back: 1, Length: api.MaxBlock - 1}, {Plain: plain[:1]}}, api.ErrLong, api.ErrPlain},
		{[]api.Seq{{Plain: plain[:9], Back: 1, Length: 4}, {Plain: plain[:api.MaxBlock-13]}}, api.OK, api.OK},
		{[]api.Seq{{Plain: plain[:9], Back: 1, Length: 4}, {Plain: plain[:api.MaxBlock-12]}}, api.ErrLong, api.ErrPlain},
		{[]api.Seq{{Back: 1, Length: math.MaxInt}, {}}, api.ErrLong, api.ErrPlain},
		{[]api.Seq{{Back: 1, Length: math.MaxInt}, {Back: 1, Length: math.MaxInt}, {Back: 1, Length: 4}, {}}, api.ErrLong, api.ErrPlain},
		{[]api.Seq{{Plain: plain[:9], Back: 1, Length: math.MaxInt}, {}}, api.ErrLong, api.ErrPlain},
		{[]api.Seq{{Plain: plain, Back: 1, Length: 4}, {}}, api.ErrLong, api.ErrPlain},
	} {
		b, why := lz.Make(c.l)
		if why != c.make || why == api.OK && !bytes.Equal(b, modelMake(c.l)) || why != api.OK && b != nil {
			t.Errorf("Make of list %d: %x %d", i, short(b), why)
		}
		b, why = lz.Play(c.l, []byte{0}, api.MaxBlock)
		if why != c.play || why == api.OK && !bytes.Equal(b, plain) || why != api.OK && b != nil {
			t.Errorf("Play of list %d: %d bytes %d", i, len(b), why)
		}
	}
}

// P3.3: one error behind the other, sequence by sequence.
func TestPlayAnswersTheFirstError(t *testing.T) {
	seq := func(plain string, back, length int) api.Seq {
		return api.Seq{Plain: []byte(plain), Back: back, Length: length}
	}
	for _, c := range []struct {
		l     []api.Seq
		ahead string
		most  int
		want  string
		why   api.Errno
	}{
		{[]api.Seq{seq("ab", 2, 5), seq("cd", 0, 0)}, "", 9, "abababacd", api.OK},
		{[]api.Seq{seq("ab", 2, 5), seq("cd", 0, 0)}, "", 8, "", api.ErrPlain},
		{[]api.Seq{seq("ab", 2, 5), seq("cd", 0, 0)}, "", 7, "", api.ErrPlain},
		{[]api.Seq{seq("ab", 2, 5), seq("cd", 0, 0)}, "", 6, "", api.ErrPlain},
		{[]api.Seq{seq("ab", 3, 5), seq("cd", 0, 0)}, "", 2, "", api.ErrOffset},
		{[]api.Seq{seq("ab", 3, 5), seq("cd", 0, 0)}, "", 1, "", api.ErrPlain},
		{[]api.Seq{seq("ab", 3, 5), seq("cd", 0, 0)}, "z", 9, "abzabzacd", api.OK},
		{[]api.Seq{seq("ab", 4, 5), seq("cd", 0, 0)}, "z", 9, "", api.ErrOffset},
		{[]api.Seq{seq("ab", 1, 4), seq("", 9, 4), seq("abc", 0, 0)}, "", 6, "", api.ErrOffset},
		{[]api.Seq{seq("ab", 1, 4), seq("c", 9, 4), seq("abc", 0, 0)}, "", 6, "", api.ErrPlain},
		{[]api.Seq{seq("", 0, 0)}, "z", 0, "", api.OK},
		{[]api.Seq{seq("", 3, 4), seq("", 0, 0)}, "xyz", 4, "xyzx", api.OK},
		{[]api.Seq{seq("", 3, 4), seq("", 0, 0)}, "wxyz", 4, "xyzx", api.OK},
		{[]api.Seq{seq("", 4, 4), seq("", 6, 8), seq("", 0, 0)}, "vwxyz", 12, "wxyzyzwxyzyz", api.OK},
	} {
		b, why := lz.Play(c.l, []byte(c.ahead), c.most)
		if string(b) != c.want || why != c.why {
			t.Errorf("Play of %v behind %q at most %d: %q %d", c.l, c.ahead, c.most, b, why)
		}
	}
}

// P3.3, P3.4: a match that begins at ahead's first byte and one place ahead of it, with ahead as long as a match reaches, and longer.
func TestMatchesIntoAhead(t *testing.T) {
	all := make([]byte, 70000)
	rand.New(rand.NewSource(1)).Read(all)
	for _, n := range []int{0, 1, 2, 7, 300, 65533, 65534, 65535, 65536, 70000} {
		ahead := all[len(all)-n:]
		for _, plain := range []string{"", "p", "pq"} {
			for _, back := range []int{1, n + len(plain) - 1, n + len(plain), n + len(plain) + 1, 65534, 65535} {
				if back < 1 || back > 65535 {
					continue
				}
				l := []api.Seq{{Plain: []byte(plain), Back: back, Length: 600}, {Plain: []byte("end")}}
				text := append(slices.Clone(ahead), plain...)
				for range 600 {
					if back <= len(text) {
						text = append(text, text[len(text)-back])
					}
				}
				want, wantWhy := append(text, "end"...)[n:], api.OK
				if back > n+len(plain) {
					want, wantWhy = nil, api.ErrOffset
				}
				b, why := lz.Play(l, ahead, 1000)
				if why != wantWhy || !bytes.Equal(b, want) {
					t.Errorf("%d ahead and %q, %d back: %x %d", n, plain, back, short(b), why)
				}
				held(t, modelMake(l), ahead, 1000)
				held(t, modelMake(l), ahead, 300)
			}
		}
	}
}

// P3.1, P3.4, P3.9, P3.10: blocks cut at every place, bytes behind them, and blocks with a byte changed.
func TestBrokenBlocksAgainstTheModel(t *testing.T) {
	r := rand.New(rand.NewSource(2))
	for range 60 {
		ahead := mixed(r, r.Intn(300))
		plain := mixed(r, r.Intn(1500))
		b, why := lz.Encode(plain, ahead)
		if why != api.OK {
			t.Fatal(why)
		}
		held(t, b, ahead, len(plain))
		held(t, b, ahead[len(ahead)/2:], len(plain))
		held(t, append(b, byte(r.Intn(256))), ahead, api.MaxBlock)
		for cut := range b {
			held(t, b[:cut], ahead, len(plain))
			wrong := slices.Clone(b)
			wrong[cut] ^= 1 << r.Intn(8)
			held(t, wrong, ahead, len(plain)+r.Intn(600))
		}
		if len(plain) > 0 {
			held(t, b, ahead, r.Intn(len(plain)))
		}
	}
	for range 20000 {
		b := make([]byte, r.Intn(40))
		r.Read(b)
		held(t, b, make([]byte, r.Intn(3)*30000), r.Intn(300))
	}
}

// P3.10: a block of many matches comes to its end with the first byte that is one too many.
func TestDecodeIsBounded(t *testing.T) {
	bomb := append(bin("1f 61 01 00"), bytes.Repeat([]byte{255}, 100000)...)
	bomb = append(bomb, 0, 0)
	for _, most := range []int{0, 1, 1000, api.MaxBlock} {
		if b, _, why := lz.Decode(bomb, nil, most); b != nil || why != api.ErrPlain {
			t.Errorf("at most %d: %d bytes, %d", most, len(b), why)
		}
	}
	tight := bomb[len(bomb)-16002:]
	tight = append(bin("1f 61 01 00"), tight...)
	if b, _, why := lz.Decode(tight, nil, api.MaxBlock); why != api.OK || len(b) != 16000*255+20 || len(b) > 255*len(tight) {
		t.Error(len(b), why)
	}
}

// P3.4: blocks that another program of the standard made.
func TestDecodeOfBlocksThatAreKnown(t *testing.T) {
	numbers := make([]byte, 40)
	for i := range numbers {
		numbers[i] = byte(i)
	}
	fox := "the quick brown fox and the quick red fox; "
	plain := strings.Repeat(fox, 3) + string(numbers) + strings.Repeat("z", 300) + "brown fox and the end of it"
	b := bin("f60974686520717569636b2062726f776e20666f7820616e642018008772656420666f783b13000f2b0039ff1a000102030405060708090a0b0c0d0e0f101112131415161718191a1b1c1d1e1f20212223242526277a0100ff190ea00190656e64206f66206974")
	if out, _, why := lz.Decode(b, nil, len(plain)); why != api.OK || string(out) != plain {
		t.Errorf("%q %d", out, why)
	}
	plain = "a red fox; the quick brown fox and another one at the end"
	b = bin("16610b00061e000a3600f007616e6f74686572206f6e652061742074686520656e64")
	if out, _, why := lz.Decode(b, []byte(fox), len(plain)); why != api.OK || string(out) != plain {
		t.Errorf("%q %d", out, why)
	}
}
