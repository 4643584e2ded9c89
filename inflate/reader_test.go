package inflate_test

import (
	"bytes"
	"slices"
	"strings"
	"testing"

	"satchel/api"
	"satchel/inflate"
)

// P6.3, P6.4: the chapter's second example.
func TestReaderExample(t *testing.T) {
	r := mustReader(t, 9)
	for _, x := range []struct {
		b, plain, rest string
		done           bool
		size           int
	}{
		{"\x4b", "", "", false, 1},
		{"\x04", "a", "", false, 2},
		{"\x00\x58", "", "\x58", true, 3},
		{"", "", "\x58", true, 3},
		{"YZ", "", "\x58YZ", true, 3},
	} {
		plain, why := r.Feed([]byte(x.b))
		if string(plain) != x.plain || why != api.OK || r.Done() != x.done || string(r.Rest()) != x.rest || r.Size() != x.size {
			t.Errorf("%x: %q %d, %v %q %d", x.b, plain, why, r.Done(), r.Rest(), r.Size())
		}
	}
}

// P6.2, P6.4: a reader that took no bytes; and Feed of none, at any time.
func TestFeedOfNothing(t *testing.T) {
	r := mustReader(t, 9)
	if r.Done() || len(r.Rest()) != 0 || r.Size() != 0 {
		t.Error(r.Done(), r.Rest(), r.Size())
	}
	nothing := func(size int, why api.Errno) {
		t.Helper()
		for _, b := range [][]byte{nil, {}} {
			if plain, got := r.Feed(b); len(plain) != 0 || got != why || r.Size() != size {
				t.Errorf("%x %d, %d bytes", plain, got, r.Size())
			}
		}
	}
	nothing(0, api.OK)
	for i, x := range []byte("\x01\x02\x00\xfd\xffab") {
		r.Feed([]byte{x})
		nothing(i+1, api.OK)
	}
	if !r.Done() {
		t.Error("not done")
	}
	r.Feed([]byte("behind"))
	nothing(7, api.OK)
	r = mustReader(t, 9)
	r.Feed([]byte{7, 7})
	nothing(2, api.ErrKindOf)
}

// P6.3: what can be told ahead of an error is told with it; behind it nothing is told or taken.
func TestFeedBehindAnError(t *testing.T) {
	f := fixed()
	for _, x := range []struct {
		row string
		why api.Errno
	}{
		{head(false, 1) + f.bytes("ab") + f.end() + head(true, 3), api.ErrKindOf},
		{storedBehind("", false, []byte("ab")) + up(head(true, 0), "0") + num(7, 16) + num(7, 16), api.ErrStored},
		{head(false, 1) + f.bytes("ab") + f.end() + ownHead(true, 287, 1, 4, plainFirst()), api.ErrLengths},
		{head(false, 1) + f.bytes("ab") + f.symbols[286], api.ErrWord},
		{head(false, 1) + f.bytes("ab") + f.match(257, 0, 2, 0), api.ErrDistance},
		{head(false, 1) + f.bytes("abc"), api.ErrPlain},
		{head(false, 1) + f.bytes("ab") + f.match(257, 0, 1, 0), api.ErrPlain},
	} {
		b := append(bytesOf(x.row), "behind"...)
		r := mustReader(t, 2)
		if plain, why := r.Feed(b); string(plain) != "ab" || why != x.why {
			t.Errorf("%q %d, not %d", plain, why, x.why)
		}
		for _, more := range []string{"", "\x03\x00", string(b)} {
			plain, why := r.Feed([]byte(more))
			if len(plain) != 0 || why != x.why || r.Done() || len(r.Rest()) != 0 || r.Size() != len(b) {
				t.Errorf("behind %d: %q %d, %v %q %d", x.why, plain, why, r.Done(), r.Rest(), r.Size())
			}
		}
		held(t, b, 2)
	}
}

// P6.3: bytes that are fed behind the end are kept, and are nothing that is read.
func TestFeedBehindTheEnd(t *testing.T) {
	r := mustReader(t, 1)
	r.Feed([]byte("\x4b\x04\x00"))
	rest := ""
	for _, more := range []string{"\x07", "\x4b\x04\x00", "", strings.Repeat("x", 5000)} {
		rest += more
		piece := []byte(more)
		if plain, why := r.Feed(piece); len(plain) != 0 || why != api.OK {
			t.Errorf("%q %d", plain, why)
		}
		spoil(piece)
		spoil(r.Rest())
		if !r.Done() || string(r.Rest()) != rest || r.Size() != 3 {
			t.Errorf("%v %q %d", r.Done(), r.Rest(), r.Size())
		}
	}
}

// The rule of memory: no two answers share any, and none shares any with the reader.
func TestAnswersApart(t *testing.T) {
	b := bytesOf(storedBehind("", false, []byte("abcdefgh")) + head(true, 1) + fixed().match(262, 0, 5, 1) + fixed().end())
	r := mustReader(t, 99)
	var all [][]byte
	var want []string
	take := func(b []byte) {
		all = append(all, b)
		want = append(want, string(b))
	}
	for _, x := range b {
		plain, _ := r.Feed([]byte{x})
		take(plain)
	}
	for _, x := range []byte("behind") {
		r.Feed([]byte{x})
		take(r.Rest())
	}
	if got := strings.Join(want[:len(b)], ""); got != "abcdefghabcdefgh" {
		t.Errorf("%q", got)
	}
	for i := range all {
		_ = append(all[i], "over"...)
		for j := range all {
			if string(all[j]) != want[j] {
				t.Fatalf("what was told is another one: %q, not %q", all[j], want[j])
			}
		}
	}
}

// The rule that two objects know nothing of one another.
func TestReadersApart(t *testing.T) {
	var streams [][]byte
	var readers []*inflate.Reader
	var told [][]byte
	longest := 0
	for i := range 5 {
		plain := bytes.Repeat(noise(int64(i), 50), 3)
		row := storedBehind("", false, plain) + head(true, 1) + fixed().match(285, 0, 10+i, i) + fixed().end()
		streams = append(streams, bytesOf(row))
		readers = append(readers, mustReader(t, 500))
		longest = max(longest, len(streams[i]))
	}
	told = make([][]byte, len(streams))
	for at := range longest {
		for i, b := range streams {
			if at < len(b) {
				plain, _ := readers[i].Feed(b[at : at+1])
				told[i] = append(told[i], plain...)
			}
		}
	}
	for i, b := range streams {
		if plain, n, why := inflate.Decode(b, 500); why != api.OK || n != len(b) || !bytes.Equal(plain, told[i]) || !readers[i].Done() {
			t.Errorf("%d: %d %d", i, n, why)
		}
	}
}

// P6.6, P6.7: what is told of each beginning begins what is told of more, also ahead of errors.
func TestBeginnings(t *testing.T) {
	f := fixed()
	row, g := own(false, lengthsWith(258, map[int]int{'b': 2, 256: 2, 257: 1}), []int{1})
	row += g.bytes("bb") + g.match(257, 0, 0, 0) + g.end() + head(false, 1) + f.bytes("told") + f.match(285, 0, 3, 0) + f.end()
	for _, b := range [][]byte{
		bytesOf(storedBehind(row, true, []byte("at the end"))),
		bytesOf(row + head(true, 3)),
		bytesOf(row + head(true, 1) + f.symbols[287]),
	} {
		before := ""
		for n := range len(b) + 1 {
			r := mustReader(t, 400)
			plain, _ := r.Feed(b[:n])
			if !strings.HasPrefix(string(plain), before) {
				t.Fatalf("the first %d bytes of %s: %q behind %q", n, short(b), plain, before)
			}
			before = string(plain)
		}
		if len(before) < 267 {
			t.Errorf("%d bytes told", len(before))
		}
	}
}

// P6.5: a stream that comes to nearly as much as there can be, and no more than most.
func TestGreatestRatio(t *testing.T) {
	row, g := own(true, lengthsWith(286, map[int]int{0: 2, 256: 2, 285: 1}), []int{1})
	row += g.bytes("\x00") + strings.Repeat(g.match(285, 0, 0, 0), 16256) + g.end()
	b := bytesOf(row)
	plain, n, why := inflate.Decode(b, api.MaxBlock)
	if why != api.OK || n != len(b) || len(plain) != 1+258*16256 || len(plain) > 1032*len(b) || len(plain) < 990*len(b) {
		t.Errorf("%d bytes of %d, %d", len(plain), len(b), why)
	}
	m := newModel(b, 1+258*16256-1)
	if m.why != api.ErrPlain {
		t.Error(m.why)
	}
	heldDecode(t, m, b)
	heldPieces(t, m, b, randomPieces(len(b)))
	heldPieces(t, newModel(b, api.MaxBlock), b, slices.Repeat([]int{1}, len(b)))
}

// P6.5: a stream of nothing but empty blocks comes to an end soon, of whichever kind they are.
func TestManyEmptyBlocks(t *testing.T) {
	f := fixed()
	for _, block := range []string{
		head(false, 1) + f.end(),
		storedBehind("", false, nil),
		head(false, 1) + f.end() + filler(0),
	} {
		row := strings.Repeat(block, 8*400000/len(block)/8*8)
		b := bytesOf(row)
		if plain, n, why := inflate.Decode(b, 0); len(plain) != 0 || n != 0 || why != api.ErrShort {
			t.Errorf("%d %d %d", len(plain), n, why)
		}
		b = bytesOf(row + head(true, 1) + f.end())
		if plain, n, why := inflate.Decode(b, 0); len(plain) != 0 || n != len(b) || why != api.OK {
			t.Errorf("%d %d %d", len(plain), n, why)
		}
	}
}
