package frame_test

import (
	"bytes"
	"math"
	"math/rand"
	"slices"
	"testing"

	"satchel/api"
	"satchel/frame"
	"satchel/lz"
)

// round holds the frame of plain to all that is promised of it.
func round(t *testing.T, plain []byte, s api.Shape) {
	t.Helper()
	want, blocks, plains := modelEncode(plain, s)
	b := mustEncode(t, plain, s)
	if !bytes.Equal(b, want) {
		t.Fatalf("Encode of %d bytes, %v: %d bytes, %x, not %d, %x", len(plain), s, len(b), short(b), len(want), short(want))
	}
	if len(b) > len(plain)+8*blocks+23 {
		t.Fatalf("Encode of %d bytes, %v: %d bytes", len(plain), s, len(b))
	}
	if !frame.Is(b) {
		t.Fatalf("Is of Encode of %d bytes, %v", len(plain), s)
	}
	out, at, why := frame.Decode(b, len(plain))
	if why != api.OK || at != len(b) || !bytes.Equal(out, plain) {
		t.Fatalf("Decode of Encode of %d bytes, %v: %d bytes, %d %d", len(plain), s, len(out), at, why)
	}
	told := []api.Frame{{To: len(b), Shape: s, Blocks: blocks, Plain: plains, Size: len(plain)}}
	if l, at, why := frame.Frames(b, len(plain)); why != api.OK || at != len(b) || !slices.Equal(l, told) {
		t.Fatalf("Frames of Encode of %d bytes, %v: %v %d %d", len(plain), s, l, at, why)
	}
	if len(plain) == 0 {
		return
	}
	if out, at, why := frame.Decode(b, len(plain)-1); why != api.ErrPlain || at < 7 || at >= len(b) || out != nil {
		t.Fatalf("Decode of Encode of %d bytes, %v, with one byte too few: %d bytes, %d %d", len(plain), s, len(out), at, why)
	}
}

// P4.1, P4.3, P4.4: the chapter's examples.
func TestTheExamples(t *testing.T) {
	alone := api.Shape{Block: 4, Alone: true}
	if b := mustEncode(t, nil, alone); !bytes.Equal(b, bin("04 22 4d 18 60 40 82 00 00 00 00")) {
		t.Errorf("%x", b)
	}
	if b := mustEncode(t, []byte("a"), alone); !bytes.Equal(b, bin("04 22 4d 18 60 40 82 01 00 00 80 61 00 00 00 00")) {
		t.Errorf("%x", b)
	}
	s := mustSkip(t, 3, []byte("xy"))
	if !bytes.Equal(s, bin("53 2a 4d 18 02 00 00 00 78 79")) {
		t.Errorf("%x", s)
	}
	if l, at, why := frame.Frames(s, 0); why != api.OK || at != 10 || !slices.Equal(l, []api.Frame{{To: 10, Skipped: true, User: 3}}) {
		t.Error(l, at, why)
	}
	for _, c := range []struct {
		b    string
		most int
		out  string
		at   int
		why  api.Errno
	}{
		{"04 22 4d 18 60 40 82 00 00 00 00", 0, "", 11, api.OK},
		{"04 22 4d 18 60 40 82 00 00 00", 9, "", 10, api.ErrShort},
		{"04 22 4d 18 61 40 82 00 00 00 00", 9, "", 4, api.ErrDict},
		{"04 22 4d 18 60 40 83 00 00 00 00", 9, "", 6, api.ErrHead},
		{"04 22 4d 18 60 30 82 00 00 00 00", 9, "", 5, api.ErrReserved},
		{"04 22 4d 18 60 40 82 01 00 00 80 61 00 00 00 00", 1, "a", 16, api.OK},
		{"04 22 4d 18 60 40 82 01 00 00 80 61 00 00 00 00", 0, "", 11, api.ErrPlain},
		{"53 2a 4d 18 02 00 00 00 78 79", 0, "", 10, api.OK},
		{"", 0, "", 0, api.OK},
		{"", api.MaxBlock, "", 0, api.OK},
	} {
		if out, at, why := held(t, bin(c.b), c.most); string(out) != c.out || at != c.at || why != c.why {
			t.Errorf("Decode of %s, at most %d: %q %d %d", c.b, c.most, out, at, why)
		}
	}
}

// P4.1: what can't be made, and which error is first.
func TestEncodeRefuses(t *testing.T) {
	long := make([]byte, api.MaxBlock+1)
	for _, n := range []int{math.MinInt, -4, 0, 3, 8, 16, 64, math.MaxInt} {
		for _, plain := range [][]byte{nil, []byte("a"), long} {
			if b, why := frame.Encode(plain, api.Shape{Block: n, BlockSums: true}); b != nil || why != api.ErrArg {
				t.Errorf("Block %d: %x %d", n, short(b), why)
			}
		}
	}
	for _, s := range shapes() {
		if b, why := frame.Encode(long, s); b != nil || why != api.ErrLong {
			t.Errorf("%v: %d bytes, %d", s, len(b), why)
		}
	}
}

// P4.1: frames that are skipped, of every user, of no bytes and of as many as may be; and those that can't be made.
func TestSkip(t *testing.T) {
	long := make([]byte, api.MaxBlock+1)
	for user := range 16 {
		for _, n := range []int{0, 1, 255, 256, 65536, api.MaxBlock} {
			b := mustSkip(t, user, long[:n])
			want := slices.Concat([]byte{byte(0x50 + user), 0x2a, 0x4d, 0x18}, le32(n), long[:n])
			if !bytes.Equal(b, want) {
				t.Errorf("Skip of %d bytes for %d: %x", n, user, short(b))
			}
			l, at, why := frame.Frames(b, 0)
			if why != api.OK || at != len(b) || !slices.Equal(l, []api.Frame{{To: len(b), Skipped: true, User: user}}) {
				t.Errorf("Frames of %d bytes for %d: %v %d %d", n, user, l, at, why)
			}
			if out, at, why := frame.Decode(b, 0); why != api.OK || at != len(b) || len(out) != 0 || !frame.Is(b) {
				t.Errorf("Decode of %d bytes for %d: %d bytes, %d %d", n, user, len(out), at, why)
			}
		}
		if b, why := frame.Skip(user, long); b != nil || why != api.ErrLong {
			t.Errorf("%d: %d bytes, %d", user, len(b), why)
		}
	}
	for _, user := range []int{math.MinInt, -1, 16, 0x50, 256, math.MaxInt} {
		for _, b := range [][]byte{nil, []byte("xy"), long} {
			if b, why := frame.Skip(user, b); b != nil || why != api.ErrArg {
				t.Errorf("%d: %x %d", user, short(b), why)
			}
		}
	}
}

// P4.1, P4.4, P4.5, P4.8: every shape, with no bytes, few, just one block, and one byte more or less; of texts that can be shortened and that can't.
func TestEveryShape(t *testing.T) {
	hard, easy := noise(1, 1<<18+1), mixed(rand.New(rand.NewSource(2)), 1<<18+1)
	zeros := make([]byte, api.MaxBlock)
	for _, s := range shapes() {
		for _, n := range []int{0, 1, 2, 12, 13, 14, 20, 500} {
			round(t, hard[:n], s)
			round(t, easy[:n], s)
			round(t, zeros[:n], s)
		}
		size := limits[s.Block]
		for _, n := range []int{size - 1, size, min(size+1, api.MaxBlock), min(2*size+5, api.MaxBlock)} {
			round(t, zeros[:n], s)
			if n < len(hard) && !s.ContentSize {
				round(t, hard[:n], s)
				round(t, easy[:n], s)
			}
		}
	}
}

// P4.1, P4.5, P4.8: as many plain bytes as may be.
func TestEncodeOfTheLongest(t *testing.T) {
	zeros, hard := make([]byte, api.MaxBlock), noise(3, api.MaxBlock)
	easy := mixed(rand.New(rand.NewSource(4)), api.MaxBlock)
	for n := range 4 {
		round(t, zeros, api.Shape{Block: 4 + n, ContentSum: true})
		round(t, easy, api.Shape{Block: 4 + n, Alone: n%2 == 0, BlockSums: true, ContentSize: true})
	}
	round(t, hard, api.Shape{Block: 4, BlockSums: true, ContentSum: true, ContentSize: true})
	round(t, hard, api.Shape{Block: 7, Alone: true})
}

// P4.1: a block that is not alone makes use of the one ahead, one that is does not.
func TestLinkedBlocksReachAhead(t *testing.T) {
	size := limits[4]
	once := noise(5, size)
	twice := slices.Concat(once, once[1000:5000])
	linked, alone := mustEncode(t, twice, api.Shape{Block: 4}), mustEncode(t, twice, api.Shape{Block: 4, Alone: true})
	if len(linked) > size+100 || len(alone) < size+4000 {
		t.Errorf("linked %d bytes, alone %d", len(linked), len(alone))
	}
	// What stands ahead of the last 65535 bytes is out of reach.
	for back, near := range map[int]bool{0: false, 1: true, 2: true} {
		far := slices.Concat(once, once[back:back+500])
		b := mustEncode(t, far, api.Shape{Block: 4})
		if near != (len(b) < size+100) {
			t.Errorf("%d back: %d bytes", size-back, len(b))
		}
		round(t, far, api.Shape{Block: 4})
	}
}

// P4.1: a block of lz that is just as long as its piece is not taken; one that is a byte shorter is.
func TestPiecesThatLzDoesNotShorten(t *testing.T) {
	for plain, less := range map[string]int{"abcdefghabcd12345678": 0, "abcdefghabcde12345678": 1, "abcdefghij": -1} {
		piece := []byte(plain)
		if b, _ := lz.Encode(piece, nil); len(piece)-len(b) != less {
			t.Fatalf("%q: lz makes %d bytes of it", plain, len(b))
		}
		for _, s := range shapes() {
			round(t, piece, s)
			l, _, _ := frame.Frames(mustEncode(t, piece, s), len(piece))
			if (l[0].Plain == 1) != (less <= 0) {
				t.Errorf("%q, %v: %v", plain, s, l)
			}
		}
	}
}

// P4.2: every magic, others, and bytes that end in one.
func TestIs(t *testing.T) {
	for _, c := range []struct {
		b  string
		is bool
	}{
		{"", false}, {"04", false}, {"04 22", false}, {"04 22 4d", false},
		{"04 22 4d 18", true}, {"04 22 4d 18 ff", true}, {"00 04 22 4d 18", false},
		{"05 22 4d 18", false}, {"04 23 4d 18", false}, {"04 22 4c 18", false}, {"04 22 4d 19", false}, {"04 2a 4d 18", false},
		{"18 4d 22 04", false}, {"03 22 4d 18", false}, {"02 21 4c 18", false},
		{"50", false}, {"50 2a", false}, {"50 2a 4d", false}, {"5f 2a 4d", false},
		{"50 22 4d 18", false}, {"50 2b 4d 18", false}, {"50 2a 4c 18", false}, {"50 2a 4d 19", false}, {"1f 8b 08 00", false},
	} {
		if frame.Is(bin(c.b)) != c.is {
			t.Errorf("Is of %s: %v", c.b, !c.is)
		}
	}
	for n := range 256 {
		if frame.Is([]byte{byte(n), 0x2a, 0x4d, 0x18}) != (n >= 0x50 && n <= 0x5f) {
			t.Errorf("Is of %x 2a 4d 18", n)
		}
	}
}

// Memory: what is handed in is not changed, its spare room included, and an answer shares nothing with it.
func TestMemoryIsItsOwn(t *testing.T) {
	plain := slices.Concat(noise(6, 70000), make([]byte, 70000), noise(6, 10000))
	for _, s := range shapes() {
		handed := slices.Concat(plain, []byte("spare"))
		b := mustEncode(t, handed[:len(plain)], s)
		if !bytes.Equal(handed[:len(plain)], plain) || string(handed[len(plain):]) != "spare" {
			t.Fatalf("%v: Encode changed what it was handed", s)
		}
		clear(handed)
		frames := slices.Concat(b, mustSkip(t, 1, []byte("xy")), []byte("spare"))
		n := len(frames) - 5
		kept := bytes.Clone(frames)
		out, _, _ := frame.Decode(frames[:n], len(plain))
		if !bytes.Equal(frames, kept) {
			t.Fatalf("%v: Decode changed what it was handed", s)
		}
		other, _, _ := frame.Decode(frames[:n], len(plain))
		clear(frames)
		clear(other[:cap(other)])
		if !bytes.Equal(out, plain) {
			t.Fatalf("%v: Decode's answer hangs on what it was handed, or on another answer", s)
		}
	}
	text := []byte("xyspare")
	b := mustSkip(t, 1, text[:2])
	clear(b[:cap(b)])
	if string(text) != "xyspare" {
		t.Errorf("Skip changed what it was handed: %q", text)
	}
}
