package inflate_test

import (
	"bytes"
	"fmt"
	"math/rand"
	"slices"
	"strings"
	"testing"

	"satchel/api"
	"satchel/inflate"
)

// few is up to how many bytes every cut of a stream is tried.
const few = 80

// held holds all that is told of b, at once and in pieces, against the model, which it answers.
func held(t *testing.T, b []byte, most int) *model {
	t.Helper()
	m := newModel(b, most)
	heldDecode(t, m, b)
	heldBeginnings(t, m, b)
	heldPieces(t, m, b, []int{len(b)})
	heldPieces(t, m, b, slices.Repeat([]int{1}, len(b)))
	heldPieces(t, m, b, randomPieces(len(b)))
	if len(b) <= few {
		for cut := range len(b) {
			heldPieces(t, m, b, []int{cut, len(b) - cut})
		}
	}
	return m
}

// heldDecode holds one Decode of b, P6.1, against the model, and to P6.5 and the rule of memory.
func heldDecode(t *testing.T, m *model, b []byte) {
	t.Helper()
	in, unchanged := spare(t, b)
	for range 2 {
		plain, n, why := inflate.Decode(in, m.most)
		want, size := m.plain, m.size()
		if m.why != api.OK {
			want, size = nil, 0
		}
		if !bytes.Equal(plain, want) || n != size || why != m.why {
			t.Fatalf("Decode of %s, at most %d: %s %d %d, not %s %d %d", short(b), m.most, short(plain), n, why, short(want), size, m.why)
		}
		if len(plain) > m.most || len(plain) > 1032*len(b) {
			t.Fatalf("Decode of %s, at most %d: %d bytes", short(b), m.most, len(plain))
		}
		spoil(plain)
		unchanged()
	}
}

// heldBeginnings holds a stream to P6.8: no byte of it can be left out, and what stands behind plays no part.
func heldBeginnings(t *testing.T, m *model, b []byte) {
	t.Helper()
	if m.why != api.OK {
		return
	}
	size := m.size()
	for n := range size {
		if size > few && n > few/2 && n < size-few/4 && n%(size/20+1) != 0 {
			continue
		}
		if plain, at, why := inflate.Decode(b[:n], m.most); plain != nil || at != 0 || why != api.ErrShort {
			t.Fatalf("Decode of the first %d bytes of %s: %s %d %d", n, short(b), short(plain), at, why)
		}
	}
	for _, behind := range []string{"", "\x00", "\xff\xff\xff\xff", "something else"} {
		plain, n, why := inflate.Decode(append(slices.Clone(b[:size]), behind...), m.most)
		if !bytes.Equal(plain, m.plain) || n != size || why != api.OK {
			t.Fatalf("Decode of %s with %q behind: %s %d %d", short(b[:size]), behind, short(plain), n, why)
		}
	}
}

// heldPieces feeds b in pieces of these sizes, and holds all that is told behind each, P6.2 to P6.4, against the model; what was fed and what was told is spoiled on the way.
func heldPieces(t *testing.T, m *model, b []byte, pieces []int) {
	t.Helper()
	r := mustReader(t, m.most)
	told, took, failed, at := 0, 0, api.OK, 0
	heldState(t, m, r, b, 0)
	for _, n := range pieces {
		piece, unchanged := spare(t, b[at:at+n])
		at += n
		if failed == api.OK {
			took = at
			if m.why != api.OK && m.why != api.ErrShort && m.at <= 8*took {
				failed = m.why
			}
		}
		can := told
		for can < len(m.by) && m.by[can] <= 8*took {
			can++
		}
		plain, why := r.Feed(piece)
		if !bytes.Equal(plain, m.plain[told:can]) || why != failed {
			t.Fatalf("%s, at most %d, in pieces of %v: Feed up to %d: %s %d, not %s %d", short(b), m.most, pieces[:min(len(pieces), few)], at, short(plain), why, short(m.plain[told:can]), failed)
		}
		told = can
		unchanged()
		spoil(piece)
		spoil(plain)
		heldState(t, m, r, b, took)
	}
	if m.why == api.OK && (told != len(m.plain) || !r.Done()) {
		t.Fatalf("%s in pieces of %v: %d bytes told of %d", short(b), pieces[:min(len(pieces), few)], told, len(m.plain))
	}
}

// heldState holds what a reader tells of itself, P6.4, against the model, when it took so many bytes.
func heldState(t *testing.T, m *model, r *inflate.Reader, b []byte, took int) {
	t.Helper()
	size, done := took, m.why == api.OK && m.at <= 8*took
	if done {
		size = m.size()
	}
	for range 2 {
		rest := r.Rest()
		if r.Done() != done || r.Size() != size || !bytes.Equal(rest, b[size:took]) {
			t.Fatalf("%s, %d bytes of it taken: done: %v, size %d, rest %s; not %v, %d, %s", short(b), took, r.Done(), r.Size(), short(rest), done, size, short(b[size:took]))
		}
		spoil(rest)
	}
}

// wanted holds a row of bits, at each place within a byte, against the model, and both against what the chapter says of it; an error is told as soon as just this row is there.
func wanted(t *testing.T, name, row string, most int, plain string, why api.Errno) {
	t.Helper()
	for place := range 8 {
		all := filler(place) + row
		for _, bit := range []string{"0", "1"} {
			m := held(t, bytesOf(up(all, bit)), most)
			if m.why != why || m.at != len(all) || string(m.plain) != plain {
				t.Errorf("%s, at %d: %s %d behind %d bits, not %s %d behind %d", name, place, short(m.plain), m.why, m.at, short([]byte(plain)), why, len(all))
			}
		}
		if len(all)%8 == 1 {
			if m := held(t, bytesOf(all[:len(all)-1]), most); m.why != api.ErrShort {
				t.Errorf("%s, a bit less: %s %d", name, short(m.plain), m.why)
			}
		}
	}
}

// filler is an empty block, behind which a byte's bits begin at this place.
func filler(place int) string {
	first := make([]int, 19)
	first[0], first[1], first[18] = 1, 2, 2
	words := wordsOf(first)
	for far := 1; ; far++ {
		row := ownHead(false, 257, far, 18, first) + words[18] + num(127, 7) + words[18] + num(107, 7) + words[1] + strings.Repeat(words[0], far) + "0"
		if len(row)%8 == place {
			return row
		}
	}
}

func mustReader(t *testing.T, most int) *inflate.Reader {
	t.Helper()
	r, why := inflate.NewReader(most)
	if r == nil || why != api.OK {
		t.Fatalf("NewReader(%d): %v %d", most, r, why)
	}
	return r
}

// randomPieces are sizes of pieces of n bytes, some of none; they hang on n alone.
func randomPieces(n int) []int {
	var l []int
	for turn := uint32(n); n > 0; {
		turn = turn*1664525 + 1013904223
		piece := int(turn>>8) % (min(n, 1<<(turn>>28)) + 1)
		l = append(l, piece)
		n -= piece
	}
	return append(l, 0, 0)
}

// spare is a copy of b with room behind it that is marked, and a way to see that nothing of it was changed.
func spare(t *testing.T, b []byte) ([]byte, func()) {
	whole := append(slices.Clone(b), "mark"...)
	before := slices.Clone(whole)
	return whole[:len(b)], func() {
		t.Helper()
		if !bytes.Equal(whole, before) {
			t.Fatalf("an argument was changed: %s, not %s", short(whole), short(before))
		}
	}
}

// spoil overwrites a list, its spare room too.
func spoil(b []byte) {
	b = b[:cap(b)]
	for i := range b {
		b[i] ^= 0xa5
	}
}

// short is bytes as a test tells of them.
func short(b []byte) string {
	return fmt.Sprintf("[%x, %d bytes]", b[:min(few, len(b))], len(b))
}

// noise is bytes in which nothing is said twice for long.
func noise(seed int64, n int) []byte {
	b := make([]byte, n)
	rand.New(rand.NewSource(seed)).Read(b)
	return b
}
