package frame_test

import (
	"bytes"
	"encoding/binary"
	"encoding/hex"
	"math/rand"
	"slices"
	"strings"
	"testing"

	"satchel/api"
	"satchel/frame"
	"satchel/lz"
	"satchel/xxh"
)

// limits are the plain bytes that a block has at most, by a shape's Block.
var limits = map[int]int{4: 65536, 5: 262144, 6: 1048576, 7: 4194304}

// shapes are all that can be.
func shapes() []api.Shape {
	var l []api.Shape
	for n := range 64 {
		l = append(l, api.Shape{Block: 4 + n/16, Alone: n&1 != 0, BlockSums: n&2 != 0, ContentSum: n&4 != 0, ContentSize: n&8 != 0})
	}
	return l
}

func le32(n int) []byte {
	return binary.LittleEndian.AppendUint32(nil, uint32(n))
}

func sumOf(b []byte) []byte {
	return binary.LittleEndian.AppendUint32(nil, xxh.Sum32(0, b))
}

// modelHead is the magic and the head of a frame, as section 4.1 has them.
func modelHead(s api.Shape, size uint64) []byte {
	flags := 64
	if s.Alone {
		flags += 32
	}
	if s.BlockSums {
		flags += 16
	}
	if s.ContentSize {
		flags += 8
	}
	if s.ContentSum {
		flags += 4
	}
	head := []byte{byte(flags), byte(16 * s.Block)}
	if s.ContentSize {
		head = binary.LittleEndian.AppendUint64(head, size)
	}
	return slices.Concat(bin("04 22 4d 18"), head, []byte{sumOf(head)[1]})
}

// modelBlock is a block of these bytes, right or wrong.
func modelBlock(s api.Shape, b []byte, plain bool) []byte {
	size := le32(len(b))
	if plain {
		size[3] |= 128
	}
	if s.BlockSums {
		return slices.Concat(size, b, sumOf(b))
	}
	return slices.Concat(size, b)
}

// modelEnd is the end of a frame with these plain bytes.
func modelEnd(s api.Shape, plain []byte) []byte {
	if s.ContentSum {
		return append(le32(0), sumOf(plain)...)
	}
	return le32(0)
}

// modelEncode is P4.1's frame, and how many blocks it has, how many of them plain.
func modelEncode(plain []byte, s api.Shape) ([]byte, int, int) {
	b := modelHead(s, uint64(len(plain)))
	blocks, plains := 0, 0
	var ahead []byte
	for piece := range slices.Chunk(plain, limits[s.Block]) {
		block, _ := lz.Encode(piece, ahead)
		blocks++
		if len(block) < len(piece) {
			b = append(b, modelBlock(s, block, false)...)
		} else {
			plains++
			b = append(b, modelBlock(s, piece, true)...)
		}
		if !s.Alone {
			ahead = plain[:len(ahead)+len(piece)]
		}
	}
	return append(b, modelEnd(s, plain)...), blocks, plains
}

// modelDecode is P4.3 and P4.4, word for word.
func modelDecode(b []byte, most int) ([]byte, []api.Frame, int, api.Errno) {
	var plain []byte
	var l []api.Frame
	for at := 0; at < len(b); {
		if len(b)-at < 4 {
			return nil, nil, len(b), api.ErrShort
		}
		f := api.Frame{From: at}
		var why api.Errno
		if b[at]/16 == 5 && string(b[at+1:at+4]) == "\x2a\x4d\x18" {
			f.Skipped, f.User = true, int(b[at]%16)
			if len(b)-at < 8 || len(b)-at-8 < int(binary.LittleEndian.Uint32(b[at+4:])) {
				return nil, nil, len(b), api.ErrShort
			}
			at += 8 + int(binary.LittleEndian.Uint32(b[at+4:]))
		} else if string(b[at:at+4]) != "\x04\x22\x4d\x18" {
			return nil, nil, at, api.ErrMagic
		} else if at, plain, why = modelFrame(b, at+4, plain, most, &f); why != api.OK {
			return nil, nil, at, why
		}
		f.To = at
		l = append(l, f)
	}
	return plain, l, len(b), api.OK
}

// modelFrame reads what stands behind the magic.
func modelFrame(b []byte, at int, plain []byte, most int, f *api.Frame) (int, []byte, api.Errno) {
	at, size, why := modelReadHead(b, at, &f.Shape)
	if why != api.OK {
		return at, nil, why
	}
	limit, begin := limits[f.Shape.Block], len(plain)
	for {
		if len(b)-at < 4 {
			return len(b), nil, api.ErrShort
		}
		n := int(binary.LittleEndian.Uint32(b[at:]))
		if n == 0 {
			break
		}
		f.Blocks++
		isPlain := n >= 1<<31
		n %= 1 << 31
		if n > limit {
			return at, nil, api.ErrBlock
		}
		from, end := at+4, at+4+n
		at = end
		if f.Shape.BlockSums {
			at += 4
		}
		if at > len(b) {
			return len(b), nil, api.ErrShort
		}
		if f.Shape.BlockSums && !bytes.Equal(b[end:at], sumOf(b[from:end])) {
			return end, nil, api.ErrBlockSum
		}
		if isPlain {
			f.Plain++
			if len(plain)+n > most {
				return from, nil, api.ErrPlain
			}
			plain = append(plain, b[from:end]...)
			continue
		}
		ahead := plain[begin:]
		if f.Shape.Alone {
			ahead = nil
		}
		out, place, why := lz.Decode(b[from:end], ahead, min(limit, most-len(plain)))
		if why != api.OK {
			return from + place, nil, why
		}
		plain = append(plain, out...)
	}
	f.Size = len(plain) - begin
	if f.Shape.ContentSize && size != uint64(f.Size) {
		return at, nil, api.ErrContent
	}
	at += 4
	if f.Shape.ContentSum {
		if len(b)-at < 4 {
			return len(b), nil, api.ErrShort
		}
		if !bytes.Equal(b[at:at+4], sumOf(plain[begin:])) {
			return at, nil, api.ErrContentSum
		}
		at += 4
	}
	return at, plain, api.OK
}

// modelReadHead reads a head.
func modelReadHead(b []byte, at int, s *api.Shape) (int, uint64, api.Errno) {
	if at == len(b) {
		return len(b), 0, api.ErrShort
	}
	x := b[at]
	if x/64 != 1 {
		return at, 0, api.ErrVersion
	}
	if x/2%2 == 1 {
		return at, 0, api.ErrReserved
	}
	if x%2 == 1 {
		return at, 0, api.ErrDict
	}
	if at+1 == len(b) {
		return len(b), 0, api.ErrShort
	}
	y := b[at+1]
	if y/128 == 1 || y%16 != 0 || y/16 < 4 {
		return at + 1, 0, api.ErrReserved
	}
	*s = api.Shape{Block: int(y / 16), Alone: x/32%2 == 1, BlockSums: x/16%2 == 1, ContentSize: x/8%2 == 1, ContentSum: x/4%2 == 1}
	end := at + 2
	if s.ContentSize {
		end += 8
	}
	if end >= len(b) {
		return len(b), 0, api.ErrShort
	}
	if b[end] != sumOf(b[at:end])[1] {
		return end, 0, api.ErrHead
	}
	if s.ContentSize {
		return end + 1, binary.LittleEndian.Uint64(b[at+2:]), api.OK
	}
	return end + 1, 0, api.OK
}

// held holds Decode and Frames of b against the model, and answers what Decode answers.
func held(t *testing.T, b []byte, most int) ([]byte, int, api.Errno) {
	t.Helper()
	want, wantFrames, wantAt, wantWhy := modelDecode(b, most)
	out, at, why := frame.Decode(b, most)
	if !bytes.Equal(out, want) || at != wantAt || why != wantWhy {
		t.Fatalf("Decode of %d bytes, %x, at most %d: %x %d %d, not %x %d %d", len(b), short(b), most, short(out), at, why, short(want), wantAt, wantWhy)
	}
	if len(out) > most {
		t.Fatalf("Decode of %x: %d bytes, at most %d", short(b), len(out), most)
	}
	if l, at, why := frame.Frames(b, most); !slices.Equal(l, wantFrames) || at != wantAt || why != wantWhy {
		t.Fatalf("Frames of %x, at most %d: %v %d %d, not %v %d %d", short(b), most, l, at, why, wantFrames, wantAt, wantWhy)
	}
	return out, at, why
}

// refused holds Decode and Frames of b to an error at a place, and both to the model.
func refused(t *testing.T, name string, b []byte, most, at int, why api.Errno) {
	t.Helper()
	if _, gotAt, got := held(t, b, most); gotAt != at || got != why {
		t.Errorf("%s: %d at %d, not %d at %d", name, got, gotAt, why, at)
	}
}

// short is so much of b as a failing test should tell.
func short(b []byte) []byte {
	return b[:min(len(b), 60)]
}

func bin(s string) []byte {
	b, err := hex.DecodeString(strings.ReplaceAll(s, " ", ""))
	if err != nil {
		panic(err)
	}
	return b
}

// noise is n bytes that no match shortens.
func noise(seed int64, n int) []byte {
	b := make([]byte, n)
	rand.New(rand.NewSource(seed)).Read(b)
	return b
}

// mixed is n bytes with runs, repeats and noise.
func mixed(r *rand.Rand, n int) []byte {
	var b []byte
	for len(b) < n {
		switch r.Intn(3) {
		case 0:
			b = append(b, noise(r.Int63(), r.Intn(60))...)
		case 1:
			b = append(b, bytes.Repeat([]byte{byte(r.Intn(9))}, r.Intn(700))...)
		case 2:
			from := r.Intn(len(b) + 1)
			b = append(b, b[from:min(len(b), from+r.Intn(2000))]...)
		}
	}
	return b[:n]
}

// mustEncode is Encode where nothing is refused.
func mustEncode(t *testing.T, plain []byte, s api.Shape) []byte {
	t.Helper()
	b, why := frame.Encode(plain, s)
	if why != api.OK {
		t.Fatalf("Encode of %d bytes, %v: %d", len(plain), s, why)
	}
	return b
}

// mustSkip is Skip where nothing is refused.
func mustSkip(t *testing.T, user int, b []byte) []byte {
	t.Helper()
	out, why := frame.Skip(user, b)
	if why != api.OK {
		t.Fatalf("Skip of %d bytes for %d: %d", len(b), user, why)
	}
	return out
}
