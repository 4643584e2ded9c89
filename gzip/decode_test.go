package gzip_test

import (
	"bytes"
	"fmt"
	"math"
	"math/rand"
	"slices"
	"strings"
	"testing"

	"satchel/api"
	"satchel/deflate"
	"satchel/gzip"
)

// aN is the chapter's example: "a", under the name "n".
const aN = "\x1f\x8b\x08\x08\x00\x00\x00\x00\x00\x00n\x00" + "\x01\x01\x00\xfe\xffa" + "\x43\xbe\xb7\xe8" + "\x01\x00\x00\x00"

// full says all that a member can.
var full = api.Member{Name: "na", Comment: "com", Extra: []byte{1, 0, 8, 31}, Time: 0x01020304, Flags: 5, System: 6, Text: true, Sum: true}

// P8.3, P8.4: the chapter's examples.
func TestDecodeExamples(t *testing.T) {
	for _, x := range []struct {
		b   string
		why api.Errno
	}{
		{aN, api.OK},
		{aN + "\x00\x00\x00", api.OK},
		{aN + "\x58", api.ErrMore},
		{aN[:len(aN)-1], api.ErrShort},
		{aN[:len(aN)-4] + "\x02\x00\x00\x00", api.ErrCount},
		{"\x1f\x8c", api.ErrMagic},
		{"\x1f\x8b\x07", api.ErrMethod},
		{"", api.ErrShort},
	} {
		plain, l, why := gzip.Decode([]byte(x.b), 9)
		if why != x.why || (why == api.OK) != (string(plain) == "a" && len(l) == 1 && same(l[0], api.Member{Name: "n"})) || why != api.OK && (plain != nil || l != nil) {
			t.Errorf("Decode of %x: %x %v %d", x.b, plain, l, why)
		}
		held(t, []byte(x.b), 9)
	}
}

// P8.3, P8.4: most out of its range is refused ahead of all else; at its ends it is not.
func TestMost(t *testing.T) {
	for _, most := range []int{math.MinInt, -1, api.MaxBlock + 1, math.MaxInt} {
		for _, b := range []string{"", "\x1e", "\x1f\x8b\x07", aN, aN + "X", aN[:5]} {
			if plain, m, n, why := gzip.One([]byte(b), most); plain != nil || !same(m, api.Member{}) || n != 0 || why != api.ErrArg {
				t.Errorf("One of %x, at most %d: %x %v %d %d", b, most, plain, m, n, why)
			}
			if plain, l, why := gzip.Decode([]byte(b), most); plain != nil || l != nil || why != api.ErrArg {
				t.Errorf("Decode of %x, at most %d: %x %v %d", b, most, plain, l, why)
			}
		}
	}
	for _, most := range []int{0, 1, 2, api.MaxBlock - 1, api.MaxBlock} {
		for _, b := range []string{"", "\x1e", "\x1f\x8b\x07", aN, aN + aN, aN + "X", aN[:5], string(modelEncode(nil, full, deflate.Fixed))} {
			held(t, []byte(b), most)
		}
	}
	if why := held(t, []byte(aN), 0); why != api.ErrPlain {
		t.Errorf("one byte, at most none: %d", why)
	}
}

// P8.3: a member cut at each of its bytes is short, also behind a whole one.
func TestCuts(t *testing.T) {
	for _, m := range members() {
		if len(m.Name)+len(m.Comment)+len(m.Extra) > 300 {
			continue
		}
		for _, way := range ways {
			b := modelEncode([]byte("plain, plain bytes"), m, way)
			for n := range b {
				if why := held(t, b[:n], 99); why != api.ErrShort {
					t.Fatalf("%x: %d", b[:n], why)
				}
				if n == 0 {
					continue
				}
				if why := held(t, slices.Concat(b, b[:n]), 99); why != api.ErrShort {
					t.Fatalf("%x behind a member: %d", b[:n], why)
				}
			}
			if why := held(t, b, 99); why != api.OK {
				t.Fatalf("%x: %d", b, why)
			}
		}
	}
}

// P8.3, P8.4: a member with each of its bytes turned into every other one, whole and cut at each byte behind.
func TestTurns(t *testing.T) {
	t.Parallel()
	for _, way := range []int{deflate.Stored, deflate.Fixed} {
		b := modelEncode([]byte("plain"), full, way)
		for i := range b {
			for x := 1; x < 256; x++ {
				turned := slices.Clone(b)
				turned[i] ^= byte(x)
				held(t, turned, 99)
				if x&(x-1) == 0 {
					held(t, slices.Concat(b, turned), 99)
					for n := i + 1; n < len(b); n++ {
						held(t, turned[:n], 99)
					}
				}
			}
		}
	}
}

// P8.3: a head with a sum and a bit turned in what does not say where things stand.
func TestHeadSum(t *testing.T) {
	b, head := modelEncode([]byte("plain"), full, deflate.Stored), len(modelHead(full))
	extra := 12 + len(full.Extra)
	for i := range head {
		if i < 4 || i == 10 || i == 11 || i == extra+len(full.Name) || i == head-3 {
			continue
		}
		for bit := range 8 {
			turned := slices.Clone(b)
			turned[i] ^= 1 << bit
			if plain, m, n, why := gzip.One(turned, 99); plain != nil || !same(m, api.Member{}) || n != 0 || why != api.ErrHeadSum {
				t.Errorf("bit %d of byte %d turned: %x %s %d %d", bit, i, plain, told(m), n, why)
			}
		}
	}
}

// P8.3: which error comes first, by the places of the bytes.
func TestFirstError(t *testing.T) {
	zeros := strings.Repeat("\x00", 30)
	sum := func(head string) string { return string(le16(int(modelSum([]byte(head)) & 0xffff))) }
	withSum := "\x1f\x8b\x08\x02\x00\x00\x00\x00\x00\x00"
	right := sum(withSum)
	first, second := string([]byte{right[0] ^ 1}), string([]byte{right[1] ^ 128})
	stored := "\x01\x01\x00\xfe\xffa"
	for _, x := range []struct {
		b   string
		why api.Errno
	}{
		// Each byte is looked at if it is there.
		{"\x00", api.ErrMagic},
		{"\x1e", api.ErrMagic},
		{"\x1f", api.ErrShort},
		{"\x1f\x8a", api.ErrMagic},
		{"\x1f\x8b", api.ErrShort},
		{"\x1f\x8b\x09", api.ErrMethod},
		{"\x1f\x8b\x00", api.ErrMethod},
		{"\x1f\x8b\x08", api.ErrShort},
		{"\x1f\x8b\x08\x20", api.ErrFlags},
		{"\x1f\x8b\x08\x40", api.ErrFlags},
		{"\x1f\x8b\x08\x80", api.ErrFlags},
		{"\x1f\x8b\x08\xff", api.ErrFlags},
		{"\x1f\x8b\x08\x1f", api.ErrShort},
		// Ahead of what is wrong further on.
		{"\x1e\x8c\x07\xff" + zeros, api.ErrMagic},
		{"\x1f\x8c\x07\xff" + zeros, api.ErrMagic},
		{"\x1f\x8b\x07\xff" + zeros, api.ErrMethod},
		{"\x1f\x8b\x08\x3f" + zeros, api.ErrFlags},
		{"\x8b\x1f\x08\x00" + zeros, api.ErrMagic},
		// The head's sum, its second byte not there; then what stands behind.
		{withSum, api.ErrShort},
		{withSum + right[:1], api.ErrShort},
		{withSum + first, api.ErrHeadSum},
		{withSum + first + right[1:], api.ErrHeadSum},
		{withSum + right[:1] + second, api.ErrHeadSum},
		{withSum + right, api.ErrShort},
		{withSum + first + right[1:] + "\x07", api.ErrHeadSum},
		{withSum + right + "\x07", api.ErrKindOf},
		// inflate's errors, then what stands behind the stream.
		{withSum + right + "\x01\x01\x00\xfe\xfea", api.ErrStored},
		{withSum + right + "\x01\x0a\x00\xf5\xff" + zeros, api.ErrPlain},
		{withSum + right + "\x03\x02" + zeros, api.ErrDistance},
		{withSum + right + stored[:5], api.ErrShort},
		{withSum + right + stored, api.ErrShort},
		{withSum + right + stored + "\x43\xbe\xb7\xe8\x01\x00\x00", api.ErrShort},
		{withSum + right + stored + "\x42\xbe\xb7\xe8\x02\x00\x00", api.ErrShort}, // none of them is looked at
		{withSum + right + stored + "\x42", api.ErrShort},
		{withSum + right + stored + "\x42\xbe\xb7\xe8\x02\x00\x00\x00", api.ErrCheck},
		{withSum + right + stored + "\x42\xbe\xb7\xe8\x01\x00\x00\x00", api.ErrCheck},
		{withSum + right + stored + "\x43\xbe\xb7\xe9\x01\x00\x00\x00", api.ErrCheck},
		{withSum + right + stored + "\x43\xbe\xb7\xe8\x02\x00\x00\x00", api.ErrCount},
		{withSum + right + stored + "\x43\xbe\xb7\xe8\x00\x00\x00\x00", api.ErrCount},
		{withSum + right + stored + "\x43\xbe\xb7\xe8\x01\x00\x00\x01", api.ErrCount},
		{withSum + right + stored + "\x43\xbe\xb7\xe8\x01\x00\x00\x00", api.OK},
		{withSum + right + stored + "\x43\xbe\xb7\xe8\x01\x00\x00\x00\x00", api.OK},
	} {
		if _, _, _, why := gzip.One([]byte(x.b), 9); why != x.why {
			t.Errorf("%x: %d, not %d", x.b, why, x.why)
		}
		held(t, []byte(x.b), 9)
	}
}

// P8.3: texts of so many bytes without a 0, at the end of b and with bytes behind.
func TestLongTexts(t *testing.T) {
	long := strings.Repeat("n", 65537)
	head := func(flags byte) string { return string(rawHead(flags, api.Member{})[:10]) }
	rest := string(modelEncode([]byte("a"), api.Member{}, deflate.Fixed)[10:])
	for _, ahead := range []string{head(8), head(16), head(8|16) + "n\x00", head(8|16) + long[:65535] + "\x00", head(4|8) + "\x02\x00ab"} {
		for _, x := range []struct {
			behind string
			why    api.Errno
		}{
			{"", api.ErrShort},
			{"n", api.ErrShort},
			{long[:65534], api.ErrShort},
			{long[:65535], api.ErrShort},
			{long[:65536], api.ErrLong},
			{long[:65537], api.ErrLong},
			{long[:65536] + "\x00", api.ErrLong},
			{long[:65536] + "\x00" + rest, api.ErrLong},
			{long[:65535] + "n\x01\x00" + rest, api.ErrLong},
			{long[:65535] + "\x00", api.ErrShort},
			{long[:65535] + "\x00\x07", api.ErrKindOf},
			{long[:65535] + "\x00" + rest, api.OK},
			{long[:65534] + "\x00" + rest, api.OK},
			{"\x00" + rest, api.OK},
		} {
			b := []byte(ahead + x.behind)
			if why := held(t, b, 9); why != x.why {
				t.Errorf("%s, and %d bytes: %d, not %d", short([]byte(ahead)), len(x.behind), why, x.why)
			}
		}
	}
	// A name that goes on to the end is short, whatever is asked for behind.
	if why := held(t, []byte(head(2|8|16)+long[:65535]), 9); why != api.ErrShort {
		t.Error(why)
	}
}

// P8.3: Extra that is not all there, and all there.
func TestExtra(t *testing.T) {
	head := string(rawHead(4, api.Member{})[:10])
	rest := string(modelEncode([]byte("a"), api.Member{}, deflate.Fixed)[10:])
	most := strings.Repeat("\x00", 65535)
	for _, x := range []struct {
		b   string
		why api.Errno
	}{
		{head, api.ErrShort},
		{head + "\x00", api.ErrShort},
		{head + "\x00\x00", api.ErrShort},
		{head + "\x00\x00" + rest, api.OK},
		{head + "\x01\x00", api.ErrShort},
		{head + "\x01\x00\x00", api.ErrShort},
		{head + "\x01\x00\x00" + rest, api.OK},
		{head + "\x00\x01" + most[:256] + rest, api.OK},
		{head + "\x00\x01" + most[:255] + rest[:1], api.ErrShort},
		{head + "\xff\xff" + most[:65534], api.ErrShort},
		{head + "\xff\xff" + most, api.ErrShort},
		{head + "\xff\xff" + most + rest, api.OK},
	} {
		if why := held(t, []byte(x.b), 9); why != x.why {
			t.Errorf("%s: %d, not %d", short([]byte(x.b)), why, x.why)
		}
	}
}

// P8.3: a flag with nothing in it says none, and all flags are read.
func TestFlags(t *testing.T) {
	stream := "\x03\x00" + strings.Repeat("\x00", 8)
	for flags := range 32 {
		for _, said := range []api.Member{{}, full, {Name: "n"}, {Comment: "c"}, {Extra: []byte{0}}, {Name: "n", Comment: "c"}} {
			head := rawHead(byte(flags), said)
			want := api.Member{Time: said.Time, Flags: said.Flags, System: said.System, Text: flags&1 != 0, Sum: flags&2 != 0}
			if flags&4 != 0 {
				want.Extra = said.Extra
			}
			if flags&8 != 0 {
				want.Name = said.Name
			}
			if flags&16 != 0 {
				want.Comment = said.Comment
			}
			b := append(head, stream...)
			plain, m, n, why := gzip.One(b, 9)
			if why != api.OK || len(plain) != 0 || n != len(b) || !same(m, want) {
				t.Fatalf("One of %x: %x %s %d %d", b, plain, told(m), n, why)
			}
			held(t, b, 9)
		}
	}
}

// P8.3: One reads one member, whatever stands behind it.
func TestOneAlone(t *testing.T) {
	for _, behind := range []string{"", "\x00", "X", aN, "\x00" + aN, "\x1f\x8b", strings.Repeat("\x00", 1000)} {
		plain, m, n, why := gzip.One([]byte(aN+behind), 1)
		if why != api.OK || string(plain) != "a" || !same(m, api.Member{Name: "n"}) || n != len(aN) {
			t.Errorf("%x behind: %x %s %d %d", behind, plain, told(m), n, why)
		}
	}
}

// P8.4: members one behind the other, and what may stand behind and between them.
func TestDecode(t *testing.T) {
	none := string(modelEncode(nil, api.Member{}, deflate.Stored)) // its last eight bytes are zeros
	all := string(modelEncode([]byte("all"), full, deflate.Best))
	for _, x := range []struct {
		b     string
		most  int
		plain string
		n     int
		why   api.Errno
	}{
		{"", 9, "", 0, api.ErrShort},
		{"", 0, "", 0, api.ErrShort},
		{"\x00", 9, "", 0, api.ErrMagic},
		{strings.Repeat("\x00", 1000), 9, "", 0, api.ErrMagic},
		{"\x00" + aN, 9, "", 0, api.ErrMagic},
		{none, 0, "", 1, api.OK},
		{none + none, 0, "", 2, api.OK},
		{none + "\x00", 0, "", 1, api.OK},
		{none + none + strings.Repeat("\x00", 1000), 0, "", 2, api.OK},
		{none[:len(none)-1], 0, "", 0, api.ErrShort},
		{none + none[:len(none)-1], 0, "", 0, api.ErrShort},
		{none + none[:len(none)-8], 0, "", 0, api.ErrShort},
		{aN + aN, 2, "aa", 2, api.OK},
		{aN + aN, 1, "", 0, api.ErrPlain},
		{aN + aN, 0, "", 0, api.ErrPlain},
		{aN + none, 1, "a", 2, api.OK},
		{aN + all + aN, 5, "aalla", 3, api.OK},
		{aN + all + aN, 4, "", 0, api.ErrPlain},
		{aN + all + aN, 3, "", 0, api.ErrPlain},
		{aN + all + aN + "\x00\x00", 5, "aalla", 3, api.OK},
		// Zeros between two: what stands behind the first is not all zeros, and no member.
		{aN + "\x00" + aN, 9, "", 0, api.ErrMore},
		{aN + "\x00\x00\x00" + aN, 9, "", 0, api.ErrMore},
		{aN + "\x00\x00\x00" + aN, 1, "", 0, api.ErrMore},
		{aN + "\x00X", 9, "", 0, api.ErrMore},
		{aN + "\x00\x00\x1f", 9, "", 0, api.ErrMore},
		{aN + "X", 9, "", 0, api.ErrMore},
		{aN + "\x01\x00", 9, "", 0, api.ErrMore},
		{aN + "\x1f\x8c", 9, "", 0, api.ErrMore},
		{aN + "\x1f\x00", 9, "", 0, api.ErrMore},
		{aN + aN + "\x8b\x1f", 9, "", 0, api.ErrMore},
		{aN + aN + "X\x00", 9, "", 0, api.ErrMore},
		// The beginning of one, and then what is wrong with it.
		{aN + "\x1f", 9, "", 0, api.ErrShort},
		{aN + "\x1f\x8b", 9, "", 0, api.ErrShort},
		{aN + "\x1f\x8b\x00", 9, "", 0, api.ErrMethod},
		{aN + "\x1f\x8b\x07", 9, "", 0, api.ErrMethod},
		{aN + "\x1f\x8b\x08\x20", 9, "", 0, api.ErrFlags},
		{aN + "\x1f\x8b\x08\x00\x00\x00", 9, "", 0, api.ErrShort},
		{aN + aN[:len(aN)-4] + "\x00\x00\x00\x00", 9, "", 0, api.ErrCount},
		{aN + aN[:len(aN)-8] + "\x00\x00\x00\x00\x01\x00\x00\x00", 9, "", 0, api.ErrCheck},
		{aN + aN[:len(aN)-3], 9, "", 0, api.ErrShort},
		// The first one's error is the first.
		{aN[:len(aN)-4] + "\x02\x00\x00\x00" + "X", 9, "", 0, api.ErrCount},
		{aN[:len(aN)-8] + "\x00\x00\x00\x00\x01\x00\x00\x00" + "X", 9, "", 0, api.ErrCheck},
		{aN + "X", 0, "", 0, api.ErrPlain},
	} {
		plain, l, why := gzip.Decode([]byte(x.b), x.most)
		if string(plain) != x.plain || len(l) != x.n || why != x.why || why != api.OK && (plain != nil || l != nil) {
			t.Errorf("Decode of %x, at most %d: %q, %d members, %d, not %q, %d, %d", x.b, x.most, plain, len(l), why, x.plain, x.n, x.why)
		}
		held(t, []byte(x.b), x.most)
	}
}

// P8.4, P8.5: the plain bytes of all members together may be as many as may be.
func TestMostOfMany(t *testing.T) {
	t.Parallel()
	half := modelEncode(make([]byte, api.MaxBlock/2), api.Member{Name: "half"}, deflate.Best)
	two := slices.Concat(half, half)
	if plain, l, why := gzip.Decode(two, api.MaxBlock); why != api.OK || len(plain) != api.MaxBlock || len(l) != 2 {
		t.Error(len(plain), len(l), why)
	}
	for _, b := range [][]byte{slices.Concat(two, []byte(aN)), slices.Concat([]byte(aN), two)} {
		if plain, l, why := gzip.Decode(b, api.MaxBlock); plain != nil || l != nil || why != api.ErrPlain {
			t.Error(len(plain), len(l), why)
		}
	}
	if plain, l, why := gzip.Decode(two, api.MaxBlock-1); plain != nil || l != nil || why != api.ErrPlain {
		t.Error(len(plain), len(l), why)
	}
	none := modelEncode(nil, api.Member{}, deflate.Fixed)
	if plain, l, why := gzip.Decode(slices.Concat(two, none), api.MaxBlock); why != api.OK || len(plain) != api.MaxBlock || len(l) != 3 {
		t.Error(len(plain), len(l), why)
	}
}

// P8.4, P6: many members, and many zeros behind them, come to an end soon.
func TestManyMembers(t *testing.T) {
	t.Parallel()
	const n = 100000
	b := append(bytes.Repeat([]byte(aN), n), make([]byte, 1<<24)...)
	plain, l, why := gzip.Decode(b, n)
	if why != api.OK || len(l) != n || !bytes.Equal(plain, bytes.Repeat([]byte("a"), n)) {
		t.Error(len(plain), len(l), why)
	}
	b[len(b)-1] = 1
	if plain, l, why := gzip.Decode(b, n); plain != nil || l != nil || why != api.ErrMore {
		t.Error(len(plain), len(l), why)
	}
}

// P8.5: rows of members, each in a way of its own, with zeros behind the last one.
func TestRound(t *testing.T) {
	t.Parallel()
	r := rand.New(rand.NewSource(8))
	all := members()
	for range 300 {
		var b, plain []byte
		var said []api.Member
		for range 1 + r.Intn(6) {
			m, piece := all[r.Intn(len(all))], noise(r.Int63(), r.Intn(200))
			one, why := gzip.Encode(piece, m, r.Intn(4))
			if why != api.OK {
				t.Fatal(why)
			}
			b, plain, said = append(b, one...), append(plain, piece...), append(said, m)
		}
		b = append(b, make([]byte, r.Intn(3)*r.Intn(20))...)
		got, l, why := gzip.Decode(b, len(plain))
		if why != api.OK || !bytes.Equal(got, plain) || !slices.EqualFunc(l, said, same) {
			t.Fatalf("%s, %d of %d members, %d", short(got), len(l), len(said), why)
		}
		held(t, b, len(plain))
		held(t, b, max(len(plain)-1, 0))
	}
}

// turn turns those of the bits from a place on where a row of up to 32 has a 1.
func turn(b []byte, from int, row uint32) {
	for i := range 32 {
		if row>>i&1 == 1 {
			b[(from+i)/8] ^= 1 << ((from + i) % 8)
		}
	}
}

// burst turns up to 32 bits that stand next to each other, and holds Decode to refusing what comes of it.
func burst(t *testing.T, b []byte, from int, row uint32, most int) {
	t.Helper()
	turned := slices.Clone(b)
	turn(turned, from, row)
	if plain, l, why := gzip.Decode(turned, most); why == api.OK || plain != nil || l != nil {
		t.Fatalf("%s, with %x turned at bit %d: %s, %d members, %d", short(b), row, from, short(plain), len(l), why)
	}
}

// P8.6: bursts of every length at every place, in the plain bytes and behind the stream.
func TestBursts(t *testing.T) {
	t.Parallel()
	r := rand.New(rand.NewSource(86))
	for _, n := range []int{0, 1, 2, 3, 4, 5, 8, 30} {
		for _, way := range ways {
			plain := noise(int64(n), n)
			b := modelEncode(plain, api.Member{}, way)
			begin, end := 8*(len(b)-8), 8*len(b)
			if way == deflate.Stored {
				begin -= 8 * n
			}
			for size := 1; size <= 32; size++ {
				for from := begin; from+size <= end; from++ {
					ends := uint32(1 | 1<<(size-1))
					within := uint32(1<<size - 1)
					for _, row := range []uint32{ends, within, r.Uint32()&within | ends, r.Uint32()&within | ends} {
						burst(t, b, from, row, api.MaxBlock)
					}
				}
			}
		}
	}
}

// P8.6: all bursts of up to 12 bits, in few plain bytes and behind them.
func TestAllShortBursts(t *testing.T) {
	t.Parallel()
	b := modelEncode([]byte("ab"), full, deflate.Stored)
	for from := 8 * (len(b) - 10); from < 8*len(b); from++ {
		for row := uint32(1); row < 1<<12; row += 2 {
			if from+12 <= 8*len(b) || row>>(8*len(b)-from) == 0 {
				burst(t, b, from, row, 99)
			}
		}
	}
}

// P8.6: bursts in plain bytes of more than one stored block, and in a member that stands between others.
func TestBurstsOfMany(t *testing.T) {
	t.Parallel()
	r := rand.New(rand.NewSource(87))
	plain := noise(88, 70000)
	b := modelEncode(plain, api.Member{}, deflate.Stored)
	// Each block has a head of five bytes; the first one 65535 plain bytes.
	for range 60 {
		from := 8*15 + r.Intn(8*65535-32)
		burst(t, b, from, r.Uint32()|1, api.MaxBlock)
		from = 8*(15+65535+5) + r.Intn(8*(70000-65535)+64-32)
		burst(t, b, from, r.Uint32()|1, api.MaxBlock)
	}
	three := []byte(aN + aN + aN)
	for range 2000 {
		size := 1 + r.Intn(32)
		end := 8 * len(aN) * (1 + r.Intn(3))
		burst(t, three, end-72+r.Intn(72-size+1), (r.Uint32()|1)&(1<<size-1), 99)
	}
}

// P8.7: a member that comes to much more than it has bytes is stopped.
func TestBounded(t *testing.T) {
	b := modelEncode(make([]byte, api.MaxBlock), api.Member{}, deflate.Best)
	for _, most := range []int{0, 1, 1000, api.MaxBlock - 1} {
		if plain, l, why := gzip.Decode(b, most); plain != nil || l != nil || why != api.ErrPlain {
			t.Errorf("at most %d: %d bytes, %d members, %d", most, len(plain), len(l), why)
		}
	}
	many := bytes.Repeat(modelEncode([]byte("four"), api.Member{}, deflate.Fixed), 100)
	for most := range 402 {
		plain, _, why := gzip.Decode(many, most)
		if len(plain) > most || (why == api.OK) != (most >= 400) {
			t.Fatalf("at most %d: %d bytes, %d", most, len(plain), why)
		}
	}
}

// P8.3, P8.4, P8.7: bytes of all kinds: noise, members with some bytes changed, taken out, put in.
func TestAnyBytes(t *testing.T) {
	t.Parallel()
	r := rand.New(rand.NewSource(89))
	seeds := [][]byte{[]byte(aN), []byte(aN + aN + "\x00\x00"), modelEncode([]byte("all of it, all of it"), full, deflate.Dynamic), modelEncode([]byte("abc"), full, deflate.Fixed)}
	counts := map[api.Errno]int{}
	for i := range 40000 {
		b := slices.Clone(seeds[i%len(seeds)])
		for range 1 + r.Intn(3) {
			at := r.Intn(len(b))
			switch r.Intn(4) {
			case 0:
				b[at] = byte(r.Intn(256))
			case 1:
				b[at] ^= 1 << r.Intn(8)
			case 2:
				b = slices.Delete(b, at, at+1)
			case 3:
				b = slices.Insert(b, at, byte(r.Intn(3)))
			}
		}
		counts[held(t, b, r.Intn(40))]++
	}
	for _, why := range []api.Errno{api.OK, api.ErrShort, api.ErrMore, api.ErrPlain, api.ErrMethod, api.ErrFlags, api.ErrHeadSum, api.ErrCheck, api.ErrCount, api.ErrMagic, api.ErrStored, api.ErrKindOf, api.ErrLengths, api.ErrDistance} {
		if counts[why] == 0 {
			t.Errorf("%d never came: %s", why, fmt.Sprint(counts))
		}
	}
}
