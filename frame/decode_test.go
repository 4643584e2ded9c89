package frame_test

import (
	"bytes"
	"math"
	"math/rand"
	"slices"
	"strings"
	"testing"

	"satchel/api"
	"satchel/frame"
	"satchel/lz"
)

// P4.3: most out of its range is refused ahead of all else.
func TestDecodeAsksMostFirst(t *testing.T) {
	for _, most := range []int{math.MinInt, -1, api.MaxBlock + 1, math.MaxInt} {
		for _, b := range [][]byte{nil, {1}, bin("04 22 4d 18 60 40 82 00 00 00 00"), []byte("no frame")} {
			if out, at, why := frame.Decode(b, most); out != nil || at != 0 || why != api.ErrArg {
				t.Errorf("Decode of %x, at most %d: %x %d %d", b, most, out, at, why)
			}
			if l, at, why := frame.Frames(b, most); l != nil || at != 0 || why != api.ErrArg {
				t.Errorf("Frames of %x, at most %d: %v %d %d", b, most, l, at, why)
			}
		}
	}
}

// P4.3: frames of every shape, cut at every place, alone and behind others.
func TestCutAtEveryPlace(t *testing.T) {
	text := []byte(strings.Repeat("a text that is told twice, ", 2))
	hard := noise(7, 20)
	for _, s := range shapes() {
		skip := mustSkip(t, 5, []byte("some"))
		one, two := mustEncode(t, text, s), mustEncode(t, hard, s)
		all := slices.Concat(skip, one, two, skip)
		whole := map[int]int{0: 0, len(skip): 0, len(skip) + len(one): len(text), len(all) - len(skip): len(text) + 20}
		for cut := range len(all) {
			size, ok := whole[cut]
			if !ok {
				refused(t, "a frame that is cut", all[:cut], api.MaxBlock, cut, api.ErrShort)
				continue
			}
			if out, at, why := held(t, all[:cut], size); why != api.OK || at != cut || len(out) != size {
				t.Fatalf("%v, cut at %d: %d bytes, %d %d", s, cut, len(out), at, why)
			}
		}
	}
}

// P4.3: what is neither magic, at any byte of it, at the beginning and behind frames; and a beginning of anything that is too short for one.
func TestMagics(t *testing.T) {
	whole := bin("04 22 4d 18 60 40 82 00 00 00 00")
	for _, ahead := range [][]byte{nil, whole, mustSkip(t, 0, []byte("abc"))} {
		for i := range 32 {
			b := slices.Concat(ahead, whole)
			b[len(ahead)+i/8] ^= 1 << (i % 8)
			refused(t, "a bit of the magic", b, 9, len(ahead), api.ErrMagic)
			b = slices.Concat(ahead, bin("50 2a 4d 18 00 00 00 00"))
			b[len(ahead)+i/8] ^= 1 << (i % 8)
			if i < 4 {
				held(t, b, 0)
			} else {
				refused(t, "a bit of a skipped frame's magic", b, 9, len(ahead), api.ErrMagic)
			}
		}
		for _, tail := range []string{"00", "04", "00 00", "04 22", "00 00 00", "04 22 4d", "50 2a 4d", "ff ff ff"} {
			b := slices.Concat(ahead, bin(tail))
			refused(t, "less than a magic", b, 9, len(b), api.ErrShort)
		}
		refused(t, "no magic", slices.Concat(ahead, make([]byte, 4)), 9, len(ahead), api.ErrMagic)
	}
}

// P4.3: every FLG with every BD, with the sum that is theirs and with another one, and cut behind each of them.
func TestEveryHead(t *testing.T) {
	for n := range 1 << 16 {
		head := []byte{byte(n), byte(n >> 8)}
		magic := bin("04 22 4d 18")
		held(t, slices.Concat(magic, head[:1]), 9)
		held(t, slices.Concat(magic, head), 9)
		sum := sumOf(head)[1]
		held(t, slices.Concat(magic, head, []byte{sum}, make([]byte, 4)), 9)
		held(t, slices.Concat(magic, head, []byte{sum ^ 1}, make([]byte, 4)), 9)
		head = append(head, make([]byte, 8)...)
		held(t, slices.Concat(magic, head, []byte{sumOf(head)[1]}, make([]byte, 8)), 9)
	}
}

// P4.3: of a head's faults the first one, also where the head is cut behind it.
func TestFaultsOfHeads(t *testing.T) {
	for _, c := range []struct {
		name, b string
		at      int
		why     api.Errno
	}{
		{"version 0", "04 22 4d 18 20 40", 4, api.ErrVersion},
		{"version 2", "04 22 4d 18 a0 40", 4, api.ErrVersion},
		{"version 3, and nothing behind FLG", "04 22 4d 18 e0", 4, api.ErrVersion},
		{"the version ahead of the bits", "04 22 4d 18 23 40", 4, api.ErrVersion},
		{"a bit that must be 0, ahead of the dictionary's", "04 22 4d 18 63 40", 4, api.ErrReserved},
		{"a bit that must be 0, and nothing behind FLG", "04 22 4d 18 62", 4, api.ErrReserved},
		{"a dictionary, ahead of BD", "04 22 4d 18 61 00", 4, api.ErrDict},
		{"a dictionary, and nothing behind FLG", "04 22 4d 18 61", 4, api.ErrDict},
		{"nothing behind the magic", "04 22 4d 18", 4, api.ErrShort},
		{"nothing behind FLG", "04 22 4d 18 60", 5, api.ErrShort},
		{"BD's highest bit", "04 22 4d 18 60 c0", 5, api.ErrReserved},
		{"BD's bit 8", "04 22 4d 18 60 48", 5, api.ErrReserved},
		{"BD's bit 4", "04 22 4d 18 60 44", 5, api.ErrReserved},
		{"BD's bit 2", "04 22 4d 18 60 42", 5, api.ErrReserved},
		{"BD's bit 1", "04 22 4d 18 60 41", 5, api.ErrReserved},
		{"Block 3", "04 22 4d 18 60 30", 5, api.ErrReserved},
		{"Block 0", "04 22 4d 18 68 00", 5, api.ErrReserved},
		{"nothing behind BD", "04 22 4d 18 60 40", 6, api.ErrShort},
		{"the size is cut", "04 22 4d 18 68 40 00 00 00 00 00 00 00", 13, api.ErrShort},
		{"nothing behind the size", "04 22 4d 18 68 40 00 00 00 00 00 00 00 00", 14, api.ErrShort},
		{"another sum, and nothing behind it", "04 22 4d 18 60 40 81", 6, api.ErrHead},
		{"another sum behind the size", "04 22 4d 18 68 40 00 00 00 00 00 00 00 00 00", 14, api.ErrHead},
	} {
		for _, ahead := range []string{"", "5f 2a 4d 18 01 00 00 00 00"} {
			b := append(bin(ahead), bin(c.b)...)
			refused(t, c.name, b, 9, len(bin(ahead))+c.at, c.why)
		}
	}
}

// P4.3: every bit of a frame's head, turned without another sum. (The sum is of one byte, and tells most of them, not all; the model knows which.)
func TestEveryBitOfAHead(t *testing.T) {
	for _, s := range shapes() {
		b := mustEncode(t, []byte("some plain bytes"), s)
		sum := len(modelHead(s, 0)) - 1
		for i := 4 * 8; i < sum*8+8; i++ {
			c := bytes.Clone(b)
			c[i/8] ^= 1 << (i % 8)
			if i/8 == sum {
				refused(t, "a bit of the head's sum", c, 99, sum, api.ErrHead)
			}
			held(t, c, 99)
		}
	}
}

// framed is a frame of some blocks' bytes, made by the model, with no regard to whether they are right.
func framed(s api.Shape, size int, plain []byte, blocks ...[]byte) []byte {
	return slices.Concat(modelHead(s, uint64(size)), slices.Concat(blocks...), modelEnd(s, plain))
}

// P4.3: a block's size just at what Block has, and one above, plain and not, whole and cut off.
func TestSizesOfBlocks(t *testing.T) {
	long := noise(8, api.MaxBlock+1)
	for _, s := range shapes() {
		size := limits[s.Block]
		if size > limits[5] && s.ContentSize {
			continue
		}
		begin := len(modelHead(s, 0))
		at := framed(s, size, long[:size], modelBlock(s, long[:size], true))
		if out, n, why := held(t, at, size); why != api.OK || n != len(at) || !bytes.Equal(out, long[:size]) {
			t.Fatalf("%v, a block of %d: %d bytes, %d %d", s, size, len(out), n, why)
		}
		above := framed(s, size+1, long[:size+1], modelBlock(s, long[:size+1], true))
		refused(t, "a plain block, one above", above, api.MaxBlock, begin, api.ErrBlock)
		refused(t, "a plain block, one above, of which nothing is there", above[:begin+4], api.MaxBlock, begin, api.ErrBlock)
		refused(t, "a plain block, one above, whose size is cut", above[:begin+3], api.MaxBlock, begin+3, api.ErrShort)
		above[begin+3] &^= 128
		refused(t, "a block, one above", above, api.MaxBlock, begin, api.ErrBlock)
		for _, n := range []string{"ff ff ff 7f", "ff ff ff ff"} {
			refused(t, "the greatest size", slices.Concat(modelHead(s, 0), bin(n)), 0, begin, api.ErrBlock)
		}
		at[begin+3] &^= 128
		held(t, at, size)
	}
}

// P4.3: a block of lz may not come to more than Block has, however much room there is; its bytes may be as many.
func TestBlocksComeToNoMoreThanBlockHas(t *testing.T) {
	run := func(n int) []byte {
		b, _ := lz.Make([]api.Seq{{Plain: []byte("z"), Back: 1, Length: n - 6}, {Plain: []byte("zzzzz")}})
		return b
	}
	for _, s := range shapes() {
		size := limits[s.Block]
		b := framed(s, size, bytes.Repeat([]byte("z"), size), modelBlock(s, run(size), false))
		if out, _, why := held(t, b, size); why != api.OK || len(out) != size {
			t.Fatalf("%v: %d bytes, %d", s, len(out), why)
		}
		if s.Block == 7 {
			continue
		}
		b = framed(s, size+1, bytes.Repeat([]byte("z"), size+1), modelBlock(s, run(size+1), false))
		if out, _, why := held(t, b, api.MaxBlock); why != api.ErrPlain || out != nil {
			t.Fatalf("%v: %d bytes, %d", s, len(out), why)
		}
	}
}

// P4.3: of a block's faults the first one.
func TestFaultsOfBlocks(t *testing.T) {
	s := api.Shape{Block: 4, BlockSums: true}
	head := modelHead(s, 0)
	first := modelBlock(s, []byte("plain"), true)
	wrong := func(b []byte) []byte {
		b = bytes.Clone(b)
		b[len(b)-1] ^= 1
		return b
	}
	block := func(b string) []byte { return modelBlock(s, bin(b), false) }
	at := len(head) + len(first)
	for _, c := range []struct {
		name  string
		block []byte
		most  int
		at    int
		why   api.Errno
	}{
		{"another sum of a plain block", wrong(modelBlock(s, []byte("xy"), true)), 9, 6, api.ErrBlockSum},
		{"another sum, ahead of no room", wrong(modelBlock(s, []byte("xy"), true)), 5, 6, api.ErrBlockSum},
		{"another sum, ahead of lz's", wrong(block("01")), 9, 5, api.ErrBlockSum},
		{"the sum is cut, and there is no room", modelBlock(s, []byte("xy"), true)[:9], 5, 9, api.ErrShort},
		{"the sum is cut, and lz refuses", block("01")[:8], 9, 8, api.ErrShort},
		{"the bytes are cut", modelBlock(s, []byte("xy"), true)[:5], 5, 5, api.ErrShort},
		{"no room for a plain block", modelBlock(s, []byte("xy"), true), 6, 4, api.ErrPlain},
		{"no room for lz's plain bytes", block("20 78 79"), 6, 5, api.ErrPlain},
		{"no room for lz's match", block("11 78 01 00 00"), 10, 6, api.ErrPlain},
		{"lz's token at the end", block("01"), 9, 4, api.ErrEnd},
		{"lz's bytes end too early", block("20 78"), 9, 6, api.ErrShort},
		{"lz's match of 0", block("11 78 00 00 00"), 99, 6, api.ErrOffset},
		{"lz's match beyond the frame's beginning", block("11 78 07 00 00"), 99, 6, api.ErrOffset},
	} {
		refused(t, c.name, slices.Concat(head, first, c.block), c.most, at+c.at, c.why)
	}
	for _, b := range [][]byte{modelBlock(s, []byte("xy"), true), block("20 78 79"), block("11 78 06 00 00")} {
		all := slices.Concat(head, first, b, le32(0))
		if out, _, why := held(t, all, 11); why != api.OK || len(out) < 7 {
			t.Errorf("%x: %x %d", b, out, why)
		}
	}
}

// P4.3: of the faults of a frame's end the first one.
func TestFaultsOfEnds(t *testing.T) {
	text := []byte("plain")
	for _, s := range shapes() {
		block := modelBlock(s, text, true)
		end := len(modelHead(s, 0)) + len(block)
		right := framed(s, 5, text, block)
		if s.ContentSum {
			spoilt := bytes.Clone(right)
			spoilt[len(right)-1] ^= 128
			refused(t, "another sum", spoilt, 9, end+4, api.ErrContentSum)
			refused(t, "the sum is cut", spoilt[:len(right)-1], 9, len(right)-1, api.ErrShort)
			refused(t, "no sum", right[:end+4], 9, end+4, api.ErrShort)
		}
		if !s.ContentSize {
			continue
		}
		for _, size := range []int{0, 4, 6, 5 + 1<<8, 5 + 1<<32, math.MaxInt, -1, math.MinInt + 5} {
			b := framed(s, size, []byte("other"), block)
			refused(t, "another size, ahead of another sum", b, 9, end, api.ErrContent)
			refused(t, "another size, ahead of no sum", b[:end+4], 9, end, api.ErrContent)
			refused(t, "the end's zeros are cut, and another size", b[:end+3], 9, end+3, api.ErrShort)
		}
	}
}

// P4.3: skipped frames whose size or bytes are not there.
func TestFaultsOfSkippedFrames(t *testing.T) {
	for _, b := range []string{"50 2a 4d 18", "50 2a 4d 18 00 00 00", "50 2a 4d 18 01 00 00 00", "5f 2a 4d 18 02 00 00 00 61", "5f 2a 4d 18 ff ff ff ff 61", "5f 2a 4d 18 00 00 00 80"} {
		refused(t, "a skipped frame that is cut", bin(b), 0, len(bin(b)), api.ErrShort)
	}
	// What is skipped is not looked at: a frame, or the beginning of one.
	inner := mustEncode(t, []byte("plain"), api.Shape{Block: 4})
	b := slices.Concat(mustSkip(t, 9, inner), mustSkip(t, 0, inner[:6]), inner)
	if out, _, why := held(t, b, 5); why != api.OK || string(out) != "plain" {
		t.Error(out, why)
	}
}

// P4.3, P4.4: plain blocks without bytes, and frames of nothing else.
func TestBlocksWithoutBytes(t *testing.T) {
	for _, s := range shapes() {
		empty, some := modelBlock(s, nil, true), modelBlock(s, []byte("some"), true)
		b := framed(s, 0, nil, empty, empty, empty)
		if out, at, why := held(t, b, 0); why != api.OK || at != len(b) || len(out) != 0 {
			t.Errorf("%v: %x %d %d", s, out, at, why)
		}
		b = framed(s, 4, []byte("some"), empty, some, empty, modelBlock(s, []byte{0}, false))
		l, _, why := frame.Frames(b, 4)
		if why != api.OK || !slices.Equal(l, []api.Frame{{To: len(b), Shape: s, Blocks: 4, Plain: 3, Size: 4}}) {
			t.Errorf("%v: %v %d", s, l, why)
		}
		held(t, b, 4)
		refused(t, "the block that has bytes", b, 3, len(modelHead(s, 0))+len(empty)+4, api.ErrPlain)
	}
}

// P4.3 to P4.6: frames of several shapes one behind the other, with skipped ones between, and most just enough and one too few at each of them.
func TestFramesBehindEachOther(t *testing.T) {
	var b, plain []byte
	var want []api.Frame
	ends := []int{0}
	for i, s := range shapes() {
		text := mixed(rand.New(rand.NewSource(int64(i))), 300+i)
		if i%3 == 0 {
			from := len(b)
			b = append(b, mustSkip(t, i%16, text[:i])...)
			want = append(want, api.Frame{From: from, To: len(b), Skipped: true, User: i % 16})
		}
		from := len(b)
		one, blocks, plains := modelEncode(text, s)
		b = append(b, one...)
		plain = append(plain, text...)
		ends = append(ends, len(plain))
		want = append(want, api.Frame{From: from, To: len(b), Shape: s, Blocks: blocks, Plain: plains, Size: len(text)})
	}
	out, at, why := held(t, b, len(plain))
	if why != api.OK || at != len(b) || !bytes.Equal(out, plain) {
		t.Fatalf("%d bytes, %d %d", len(out), at, why)
	}
	if l, at, why := frame.Frames(b, len(plain)); why != api.OK || at != len(b) || !slices.Equal(l, want) {
		t.Fatalf("%v %d %d", l, at, why)
	}
	for _, n := range ends {
		for _, most := range []int{n - 1, n, n + 1} {
			if most >= 0 && most < len(plain) {
				if _, _, why := held(t, b, most); why != api.ErrPlain {
					t.Errorf("at most %d: %d", most, why)
				}
			}
		}
	}
	held(t, b, api.MaxBlock)
}

// P4.3: a linked block reaches as far back as its frame's plain bytes go, one that is alone reaches nothing, and none another frame's.
func TestHowFarBlocksReach(t *testing.T) {
	reach := func(s api.Shape, back int) []byte {
		b, _ := lz.Make([]api.Seq{{Back: back, Length: 4}, {Plain: []byte("behind it, these")}})
		return modelBlock(s, b, false)
	}
	ahead := noise(9, 65536)
	for _, s := range []api.Shape{{Block: 4}, {Block: 4, Alone: true}, {Block: 7, BlockSums: true}, {Block: 5, Alone: true, BlockSums: true}} {
		for _, n := range []int{0, 1, 7, 65535, 65536} {
			for _, back := range []int{1, n - 1, n, n + 1} {
				if back < 1 || back > 65535 {
					continue
				}
				one := slices.Concat(modelHead(s, 0), modelBlock(s, ahead[:n], true))
				if n == 0 {
					one = modelHead(s, 0)
				}
				b := slices.Concat(one, reach(s, back), le32(0))
				if !s.Alone && back <= n {
					if out, _, why := held(t, b, n+20); why != api.OK || out[n] != ahead[n-back] {
						t.Errorf("%v, %d back behind %d: %d", s, back, n, why)
					}
				} else {
					refused(t, "a match that reaches too far", b, n+20, len(one)+5, api.ErrOffset)
				}
				other := slices.Concat(one, le32(0), modelHead(s, 0), reach(s, back), le32(0))
				refused(t, "a match into another frame", other, n+20, len(one)+4+len(modelHead(s, 0))+5, api.ErrOffset)
			}
		}
	}
	// Through several blocks: the match begins in the first, the last one's plain bytes are all told.
	s := api.Shape{Block: 4, ContentSum: true}
	plain := []byte("abcdef" + "ghi" + "abcd" + "behind it, these")
	b := framed(s, 0, plain, modelBlock(s, []byte("abcdef"), true), modelBlock(s, []byte("ghi"), true), modelBlock(s, nil, true), reach(s, 9))
	if out, _, why := held(t, b, len(plain)); why != api.OK || !bytes.Equal(out, plain) {
		t.Errorf("%q %d", out, why)
	}
}

// P4.7: every bit of a block's bytes and of its sum; of the content's sum; of a plain block's bytes.
func TestABitIsTurned(t *testing.T) {
	text, hard := []byte(strings.Repeat("a bit is turned, ", 9)), noise(10, 40)
	turned := func(s api.Shape, b []byte, from, to int) {
		for i := 8 * from; i < 8*to; i++ {
			c := bytes.Clone(b)
			c[i/8] ^= 1 << (i % 8)
			if _, _, why := held(t, c, api.MaxBlock); why == api.OK {
				t.Fatalf("%v: bit %d of byte %d does not tell", s, i%8, i/8)
			}
		}
	}
	for _, s := range shapes() {
		begin := len(modelHead(s, 0)) + 4
		for _, plain := range [][]byte{text, hard} {
			b := mustEncode(t, plain, s)
			end := len(b) - len(modelEnd(s, plain))
			if s.BlockSums {
				turned(s, b, begin, end)
			}
			if s.ContentSum {
				turned(s, b, len(b)-4, len(b))
			}
		}
		if s.ContentSum && s.Alone {
			turned(s, mustEncode(t, hard, s), begin, begin+len(hard))
		}
	}
	// And behind a block of the greatest size.
	s := api.Shape{Block: 4, Alone: true, BlockSums: true}
	b := mustEncode(t, slices.Concat(noise(11, 65536), hard), s)
	turned(s, b, 11+65536, 11+65536+4)
	turned(s, b, len(b)-4-4-len(hard), len(b)-4)
}

// P4.3, P4.4, P4.6: frames that are broken somehow, against the model.
func TestBrokenFrames(t *testing.T) {
	r := rand.New(rand.NewSource(12))
	all := shapes()
	for range 30000 {
		var b []byte
		for range 1 + r.Intn(3) {
			if r.Intn(4) == 0 {
				b = append(b, mustSkip(t, r.Intn(16), noise(r.Int63(), r.Intn(9)))...)
				continue
			}
			s := all[r.Intn(len(all))]
			text := mixed(r, r.Intn(200))
			if cut := r.Intn(200); cut < len(text) {
				block, _ := lz.Encode(text[cut:], text[:cut])
				b = append(b, framed(s, len(text), text, modelBlock(s, text[:cut], true), modelBlock(s, block, false))...)
			} else {
				b = append(b, mustEncode(t, text, s)...)
			}
		}
		for range r.Intn(3) {
			switch at := r.Intn(len(b)); r.Intn(4) {
			case 0:
				b[at] ^= 1 << r.Intn(8)
			case 1:
				b[at] = byte(r.Intn(256))
			case 2:
				b = slices.Delete(b, at, min(len(b), at+1+r.Intn(4)))
			case 3:
				b = slices.Insert(b, at, noise(r.Int63(), 1+r.Intn(4))...)
			}
			if len(b) == 0 {
				b = []byte{4}
			}
		}
		held(t, b, r.Intn(700))
	}
}

// P6, P4.3: what another program of the standard made.
func TestFramesOfAnotherProgram(t *testing.T) {
	fox := "the quick brown fox, the quick brown dog, the quick brown fox and the dog again"
	var lines strings.Builder
	for i := range 2400 {
		lines.WriteString("line " + string(rune('0'+i%7)) + " of a text that goes on\n")
	}
	long := "04224d185c404019010000000000114a010000f10f6c696e652030206f6620612074657874207468617420676f6573206f6e0a" +
		"1e001f311e000a1f321e000a1f331e000a1f341e000a1f351e000a1f361e00050fd200" + strings.Repeat("ff", 256) +
		"1650207465787482c25755230000000fd200" + strings.Repeat("ff", 25) + "415073206f6e0a774943e400000000ab4e52b3"
	for _, c := range []struct {
		b     string
		plain string
		told  api.Frame
	}{
		{"04224d186440a700000000055dcc02", "", api.Frame{Shape: api.Shape{Block: 4, Alone: true, ContentSum: true}}},
		{"04224d186c404f00000000000000a333000000fc0674686520717569636b2062726f776e20666f782c2015003e646f67150071666f7820616e642d0090646f6720616761696e00000000642db24a",
			fox, api.Frame{Shape: api.Shape{Block: 4, Alone: true, ContentSum: true, ContentSize: true}, Blocks: 1}},
		{"04224d187440bd33000000fc0674686520717569636b2062726f776e20666f782c2015003e646f67150071666f7820616e642d0090646f6720616761696e555b558900000000642db24a",
			fox, api.Frame{Shape: api.Shape{Block: 4, Alone: true, BlockSums: true, ContentSum: true}, Blocks: 1}},
		{long, lines.String(), api.Frame{Shape: api.Shape{Block: 4, BlockSums: true, ContentSum: true, ContentSize: true}, Blocks: 2}},
	} {
		b := bin(c.b)
		out, _, why := held(t, b, len(c.plain))
		if why != api.OK || string(out) != c.plain {
			t.Errorf("%x: %q %d", short(b), short(out), why)
		}
		c.told.To, c.told.Size = len(b), len(c.plain)
		if l, _, why := frame.Frames(b, len(c.plain)); why != api.OK || !slices.Equal(l, []api.Frame{c.told}) {
			t.Errorf("%x: %v %d", short(b), l, why)
		}
	}
}
