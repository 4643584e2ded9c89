package lz_test

import (
	"bytes"
	"encoding/hex"
	"math/rand"
	"strings"
	"testing"

	"satchel/api"
	"satchel/lz"
)

// modelNumber reads a number whose four bits are low and whose other bytes begin at a place; it answers the place behind it, or -1 if b ends ahead of that.
func modelNumber(b []byte, at, low int) (int, int) {
	if low < 15 {
		return low, at
	}
	for n := 15; at < len(b); at++ {
		n += int(b[at])
		if b[at] != 255 {
			return n, at + 1
		}
	}
	return 0, -1
}

// modelDecode is section 3.2's order of Decode, word for word; with parse it asks neither most nor ahead, which is Parse.
func modelDecode(b, ahead []byte, most int, parse bool) ([]byte, []api.Seq, int, api.Errno) {
	var out []byte
	var l []api.Seq
	size := 0 // of all plain bytes; a match that is only parsed may be too long to be made
	for at := 0; ; {
		token := at
		if at == len(b) {
			return nil, nil, len(b), api.ErrShort
		}
		plain, begin := modelNumber(b, at+1, int(b[at]/16))
		if begin < 0 {
			return nil, nil, len(b), api.ErrShort
		}
		if !parse && size+plain > most {
			return nil, nil, begin, api.ErrPlain
		}
		if begin+plain > len(b) {
			return nil, nil, len(b), api.ErrShort
		}
		s := api.Seq{Plain: b[begin : begin+plain]}
		size += plain
		out = append(out, s.Plain...)
		two := begin + plain
		if two == len(b) {
			if b[token]%16 != 0 {
				return nil, nil, token, api.ErrEnd
			}
			return out, append(l, s), 0, api.OK
		}
		if two+2 > len(b) {
			return nil, nil, len(b), api.ErrShort
		}
		s.Back = int(b[two]) + 256*int(b[two+1])
		if s.Back == 0 || !parse && s.Back > size+len(ahead) {
			return nil, nil, two, api.ErrOffset
		}
		s.Length, at = modelNumber(b, two+2, int(b[token]%16))
		if at < 0 {
			return nil, nil, len(b), api.ErrShort
		}
		s.Length += 4
		if !parse && size+s.Length > most {
			return nil, nil, two, api.ErrPlain
		}
		size += s.Length
		for range s.Length {
			if parse {
				break
			}
			if from := len(out) - s.Back; from < 0 {
				out = append(out, ahead[len(ahead)+from])
			} else {
				out = append(out, out[from])
			}
		}
		l = append(l, s)
	}
}

// modelMake is section 3.1's bytes of sequences.
func modelMake(l []api.Seq) []byte {
	var b []byte
	number := func(n int) {
		if n >= 15 {
			b = append(b, strings.Repeat("\xff", (n-15)/255)...)
			b = append(b, byte((n-15)%255))
		}
	}
	for i, s := range l {
		last := i == len(l)-1
		token := min(len(s.Plain), 15) * 16
		if !last {
			token += min(s.Length-4, 15)
		}
		b = append(b, byte(token))
		number(len(s.Plain))
		b = append(b, s.Plain...)
		if !last {
			b = append(b, byte(s.Back%256), byte(s.Back/256))
			number(s.Length - 4)
		}
	}
	return b
}

// same tells whether two lists are of the same sequences; nil and empty are alike.
func same(l, m []api.Seq) bool {
	if len(l) != len(m) {
		return false
	}
	for i := range l {
		if !bytes.Equal(l[i].Plain, m[i].Plain) || l[i].Back != m[i].Back || l[i].Length != m[i].Length {
			return false
		}
	}
	return true
}

// held holds Parse, Make, Play and Decode of b against the model and against one another.
func held(t *testing.T, b, ahead []byte, most int) {
	t.Helper()
	_, wantList, wantAt, wantWhy := modelDecode(b, nil, 0, true)
	l, at, why := lz.Parse(b)
	if !same(l, wantList) || at != wantAt || why != wantWhy {
		t.Fatalf("Parse of %x: %v %d %d, not %v %d %d", short(b), l, at, why, wantList, wantAt, wantWhy)
	}
	want, _, wantAt, wantWhy := modelDecode(b, ahead, most, false)
	out, at, why := lz.Decode(b, ahead, most)
	if !bytes.Equal(out, want) || at != wantAt || why != wantWhy {
		t.Fatalf("Decode of %x behind %d bytes, at most %d: %x %d %d, not %x %d %d", short(b), len(ahead), most, short(out), at, why, short(want), wantAt, wantWhy)
	}
	if len(out) > most || len(out) > 255*len(b) {
		t.Fatalf("Decode of %x: %d bytes, at most %d", short(b), len(out), most)
	}
	if l == nil {
		return
	}
	if again, e := lz.Make(l); e == api.OK && !bytes.Equal(again, b) || e != api.OK && e != api.ErrLong {
		t.Fatalf("Make of Parse of %x: %x %d", short(b), short(again), e)
	}
	// b parses, so nothing but ErrPlain and ErrOffset is left, and these come alike.
	if played, e := lz.Play(l, ahead, most); e != why || !bytes.Equal(played, out) {
		t.Fatalf("Play of Parse of %x: %x %d, not %x %d", short(b), short(played), e, short(out), why)
	}
}

// short is so much of b as a failing test should tell.
func short(b []byte) []byte {
	return b[:min(len(b), 40)]
}

func bin(s string) []byte {
	b, err := hex.DecodeString(strings.ReplaceAll(s, " ", ""))
	if err != nil {
		panic(err)
	}
	return b
}

// mixed is a text of n bytes with runs, repeats and noise.
func mixed(r *rand.Rand, n int) []byte {
	letters := 1 + r.Intn(256)
	var b []byte
	for len(b) < n {
		switch c := byte(r.Intn(letters)); r.Intn(3) {
		case 0:
			for range r.Intn(60) {
				b = append(b, byte(r.Intn(letters)))
			}
		case 1:
			b = append(b, bytes.Repeat([]byte{c}, r.Intn(700))...)
		case 2:
			from := r.Intn(len(b) + 1)
			b = append(b, b[from:min(len(b), from+r.Intn(2000))]...)
		}
	}
	return b[:n]
}
