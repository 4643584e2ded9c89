package gzip_test

import (
	"bytes"
	"encoding/binary"
	"fmt"
	"math/rand"
	"slices"
	"testing"

	"satchel/api"
	"satchel/deflate"
	"satchel/gzip"
	"satchel/inflate"
)

// ways are all of deflate's.
var ways = []int{deflate.Stored, deflate.Fixed, deflate.Dynamic, deflate.Best}

// modelSum is section 8.1's, bit by bit.
func modelSum(b []byte) uint32 {
	sum := uint32(0xffffffff)
	for _, x := range b {
		sum ^= uint32(x)
		for range 8 {
			if sum&1 == 1 {
				sum = sum>>1 ^ 0xedb88320
			} else {
				sum >>= 1
			}
		}
	}
	return sum ^ 0xffffffff
}

func le16(n int) []byte {
	return binary.LittleEndian.AppendUint16(nil, uint16(n))
}

func le32(n uint32) []byte {
	return binary.LittleEndian.AppendUint32(nil, n)
}

// rawHead is a head with these flags, and with what each of them asks for, also if it is empty.
func rawHead(flags byte, m api.Member) []byte {
	b := slices.Concat([]byte{0x1f, 0x8b, 8, flags}, le32(m.Time), []byte{m.Flags, m.System})
	if flags&4 != 0 {
		b = slices.Concat(b, le16(len(m.Extra)), m.Extra)
	}
	if flags&8 != 0 {
		b = append(b, m.Name+"\x00"...)
	}
	if flags&16 != 0 {
		b = append(b, m.Comment+"\x00"...)
	}
	if flags&2 != 0 {
		b = append(b, le16(int(modelSum(b)&0xffff))...)
	}
	return b
}

// modelHead is section 8.1's head.
func modelHead(m api.Member) []byte {
	var flags byte
	if m.Text {
		flags += 1
	}
	if m.Sum {
		flags += 2
	}
	if len(m.Extra) > 0 {
		flags += 4
	}
	if len(m.Name) > 0 {
		flags += 8
	}
	if len(m.Comment) > 0 {
		flags += 16
	}
	return rawHead(flags, m)
}

// modelBehind is what stands behind the stream of plain bytes.
func modelBehind(plain []byte) []byte {
	return append(le32(modelSum(plain)), le32(uint32(len(plain)))...)
}

// modelEncode is section 8.1's member.
func modelEncode(plain []byte, m api.Member, way int) []byte {
	stream, _ := deflate.Encode(plain, way)
	return slices.Concat(modelHead(m), stream, modelBehind(plain))
}

// modelReadHead reads a head byte by byte, as P8.3 says it.
func modelReadHead(b []byte) (m api.Member, n int, why api.Errno) {
	next := func() int {
		if why != api.OK {
			return -1
		}
		if n == len(b) {
			why = api.ErrShort
			return -1
		}
		n++
		return int(b[n-1])
	}
	must := func(so bool, otherwise api.Errno) {
		if why == api.OK && !so {
			why = otherwise
		}
	}
	text := func() string {
		var l []byte
		for x := next(); x > 0; x = next() {
			l = append(l, byte(x))
			must(len(l) <= 65535, api.ErrLong)
		}
		return string(l)
	}
	must(next() == 0x1f, api.ErrMagic)
	must(next() == 0x8b, api.ErrMagic)
	must(next() == 8, api.ErrMethod)
	flags := next()
	must(flags < 32, api.ErrFlags)
	for i := range 4 {
		m.Time += uint32(next()) << (8 * i)
	}
	m.Flags, m.System = byte(next()), byte(next())
	m.Text, m.Sum = flags&1 != 0, flags&2 != 0
	if why == api.OK && flags&4 != 0 {
		size := next()
		size += 256 * next()
		for range size {
			m.Extra = append(m.Extra, byte(next()))
		}
	}
	if why == api.OK && flags&8 != 0 {
		m.Name = text()
	}
	if why == api.OK && flags&16 != 0 {
		m.Comment = text()
	}
	if why == api.OK && flags&2 != 0 {
		sum := int(modelSum(b[:n]))
		must(next() == sum%256, api.ErrHeadSum)
		must(next() == sum/256%256, api.ErrHeadSum)
	}
	return m, n, why
}

// modelOne is P8.3, word for word.
func modelOne(b []byte, most int) ([]byte, api.Member, int, api.Errno) {
	if most < 0 || most > 4194304 {
		return nil, api.Member{}, 0, api.ErrArg
	}
	m, head, why := modelReadHead(b)
	if why != api.OK {
		return nil, api.Member{}, 0, why
	}
	plain, stream, why := inflate.Decode(b[head:], most)
	if why != api.OK {
		return nil, api.Member{}, 0, why
	}
	left := b[head+stream:]
	if len(left) < 8 {
		return nil, api.Member{}, 0, api.ErrShort
	}
	want := modelBehind(plain)
	if !bytes.Equal(left[:4], want[:4]) {
		return nil, api.Member{}, 0, api.ErrCheck
	}
	if !bytes.Equal(left[4:8], want[4:]) {
		return nil, api.Member{}, 0, api.ErrCount
	}
	return plain, m, head + stream + 8, api.OK
}

// modelDecode is P8.4, word for word.
func modelDecode(b []byte, most int) ([]byte, []api.Member, api.Errno) {
	plain, m, n, why := modelOne(b, most)
	members := []api.Member{m}
	for left := b[n:]; why == api.OK && !bytes.Equal(left, make([]byte, len(left))); left = left[n:] {
		var more []byte
		more, m, n, why = modelOne(left, most-len(plain))
		if why == api.ErrMagic {
			why = api.ErrMore
		}
		plain, members = append(plain, more...), append(members, m)
	}
	if why != api.OK {
		return nil, nil, why
	}
	return plain, members, api.OK
}

// same tells whether two members say the same.
func same(a, b api.Member) bool {
	return a.Name == b.Name && a.Comment == b.Comment && bytes.Equal(a.Extra, b.Extra) && a.Time == b.Time &&
		a.Flags == b.Flags && a.System == b.System && a.Text == b.Text && a.Sum == b.Sum
}

// held holds One and Decode of b to the model and to the rules, and answers Decode's error.
func held(t *testing.T, b []byte, most int) api.Errno {
	t.Helper()
	in, unchanged := spare(t, b)
	plain, m, n, why := modelOne(b, most)
	got, gotM, gotN, gotWhy := oneOf(t, in, most)
	if gotWhy != why || gotN != n || !bytes.Equal(got, plain) || !same(gotM, m) {
		t.Fatalf("One of %s, at most %d: %s %s %d %d, not %s %s %d %d", short(b), most, short(got), told(gotM), gotN, gotWhy, short(plain), told(m), n, why)
	}
	plain, members, why := modelDecode(b, most)
	got, gotMembers, gotWhy := decoded(t, in, most)
	if gotWhy != why || !bytes.Equal(got, plain) || !slices.EqualFunc(gotMembers, members, same) {
		t.Fatalf("Decode of %s, at most %d: %s, %d members, %d, not %s, %d members, %d", short(b), most, short(got), len(gotMembers), gotWhy, short(plain), len(members), why)
	}
	// P8.7.
	if len(got) > max(most, 0) {
		t.Fatalf("Decode of %s, at most %d: %d bytes", short(b), most, len(got))
	}
	unchanged()
	return why
}

// oneOf is One, asked twice: what is done to one answer changes no other, nor what was handed in.
func oneOf(t *testing.T, b []byte, most int) ([]byte, api.Member, int, api.Errno) {
	t.Helper()
	plain, m, n, why := gzip.One(b, most)
	kept, extra := slices.Clone(plain), slices.Clone(m.Extra)
	other, otherM, otherN, otherWhy := gzip.One(b, most)
	if !bytes.Equal(other, plain) || !same(otherM, m) || otherN != n || otherWhy != why {
		t.Fatalf("One of %s, at most %d, asked twice: %s %s %d %d", short(b), most, short(other), told(otherM), otherN, otherWhy)
	}
	spoil(other)
	if !bytes.Equal(otherM.Extra, extra) {
		t.Fatalf("One of %s: two lists of an answer share their memory", short(b))
	}
	spoil(otherM.Extra)
	if !bytes.Equal(plain, kept) || !bytes.Equal(m.Extra, extra) {
		t.Fatalf("One of %s: two answers share their memory", short(b))
	}
	return plain, m, n, why
}

// decoded is Decode, asked likewise.
func decoded(t *testing.T, b []byte, most int) ([]byte, []api.Member, api.Errno) {
	t.Helper()
	plain, members, why := gzip.Decode(b, most)
	kept := slices.Clone(plain)
	var extras [][]byte
	for _, m := range members {
		extras = append(extras, slices.Clone(m.Extra))
	}
	other, others, otherWhy := gzip.Decode(b, most)
	if !bytes.Equal(other, plain) || !slices.EqualFunc(others, members, same) || otherWhy != why {
		t.Fatalf("Decode of %s, at most %d, asked twice: %s, %d members, %d", short(b), most, short(other), len(others), otherWhy)
	}
	spoil(other)
	for i, m := range others {
		if !bytes.Equal(m.Extra, extras[i]) {
			t.Fatalf("Decode of %s: two lists of an answer share their memory", short(b))
		}
		spoil(m.Extra)
	}
	clear(others[:cap(others)])
	if !bytes.Equal(plain, kept) {
		t.Fatalf("Decode of %s: two answers share their memory", short(b))
	}
	for i, m := range members {
		if !bytes.Equal(m.Extra, extras[i]) {
			t.Fatalf("Decode of %s: two answers share their memory", short(b))
		}
	}
	return plain, members, why
}

func told(m api.Member) string {
	return fmt.Sprintf("{%s, %s, %s, %d %d %d %t %t}", short([]byte(m.Name)), short([]byte(m.Comment)), short(m.Extra), m.Time, m.Flags, m.System, m.Text, m.Sum)
}

// spare is b with marked room behind it; what it answers tells if b or that room was changed.
func spare(t *testing.T, b []byte) ([]byte, func()) {
	t.Helper()
	all := append(slices.Clone(b), "spare room"...)
	kept := slices.Clone(all)
	return all[:len(b)], func() {
		t.Helper()
		if !bytes.Equal(all, kept) {
			t.Fatalf("%s was changed, or the room behind it", short(b))
		}
	}
}

// spoil overwrites a list, its spare room too.
func spoil(b []byte) {
	b = b[:cap(b)]
	for i := range b {
		b[i] ^= 0x5a
	}
}

func short(b []byte) string {
	if len(b) <= 40 {
		return fmt.Sprintf("%x", b)
	}
	return fmt.Sprintf("%x.. (%d bytes)", b[:40], len(b))
}

func noise(seed int64, n int) []byte {
	b := make([]byte, n)
	rand.New(rand.NewSource(seed)).Read(b)
	return b
}
