package lz_test

import (
	"bytes"
	"math"
	"math/rand"
	"slices"
	"testing"

	"satchel/api"
	"satchel/lz"
)

// endsAsOne is section 3.1's word on how a block ends.
func endsAsOne(l []api.Seq) bool {
	if len(l) == 1 {
		return true
	}
	tail := len(l[len(l)-1].Plain)
	return tail >= 5 && l[len(l)-2].Length+tail >= 12
}

// round holds a block of Encode to all that is promised of it, and answers the block.
func round(t *testing.T, plain, ahead []byte) []byte {
	t.Helper()
	b, why := lz.Encode(plain, ahead)
	if why != api.OK || len(b) == 0 || len(b) > lz.Bound(len(plain)) {
		t.Fatalf("Encode of %d bytes behind %d: %d bytes, %d", len(plain), len(ahead), len(b), why)
	}
	l, _, why := lz.Parse(b)
	if why != api.OK || !endsAsOne(l) {
		t.Fatalf("Encode of %d bytes behind %d: a block of %d sequences that does not end as one", len(plain), len(ahead), len(l))
	}
	if out, at, why := lz.Decode(b, ahead, len(plain)); why != api.OK || at != 0 || !bytes.Equal(out, plain) {
		t.Fatalf("Decode of Encode of %d bytes behind %d: %d bytes, %d %d", len(plain), len(ahead), len(out), at, why)
	}
	// The model knows of no other way to read a block.
	if out, _, _, why := modelDecode(b, ahead, len(plain), false); why != api.OK || !bytes.Equal(out, plain) {
		t.Fatalf("the model reads the block of %d bytes as %x %d", len(plain), short(out), why)
	}
	return b
}

// P3.5.
func TestBound(t *testing.T) {
	for n, want := range map[int]int{
		math.MinInt: 0, -1: 0, 0: 16, 1: 17, 254: 270, 255: 272, 256: 273, 509: 526, 510: 528,
		api.MaxBlock - 1: api.MaxBlock - 1 + 16448 + 16, api.MaxBlock: api.MaxBlock + 16448 + 16, api.MaxBlock + 1: 0, math.MaxInt: 0,
	} {
		if got := lz.Bound(n); got != want {
			t.Errorf("Bound(%d): %d", n, got)
		}
	}
}

// P3.6: the chapter's example, and short texts, that have no room for a match or just one.
func TestEncodeOfShortTexts(t *testing.T) {
	if b, why := lz.Encode(nil, nil); why != api.OK || !bytes.Equal(b, bin("00")) {
		t.Errorf("%x %d", b, why)
	}
	if b, why := lz.Encode([]byte{}, []byte("ahead")); why != api.OK || !bytes.Equal(b, bin("00")) {
		t.Errorf("%x %d", b, why)
	}
	zeros := make([]byte, 100)
	r := rand.New(rand.NewSource(3))
	for n := range 60 {
		for _, m := range []int{0, 1, 2, 3, 4, 5, 8, 40} {
			round(t, zeros[:n], zeros[:m])
			few := make([]byte, n+m)
			for i := range few {
				few[i] = byte(r.Intn(2))
			}
			round(t, few[m:], few[:m])
			round(t, few[:n], few[n:])
		}
	}
}

// P3.6: too long, and just not.
func TestEncodeOfLongTexts(t *testing.T) {
	plain := make([]byte, api.MaxBlock+1)
	for _, n := range []int{api.MaxBlock + 1, api.MaxBlock} {
		b, why := lz.Encode(plain[:n], plain)
		if n > api.MaxBlock && (b != nil || why != api.ErrLong) || n == api.MaxBlock && why != api.OK {
			t.Errorf("%d bytes: %d bytes, %d", n, len(b), why)
		}
	}
	r := rand.New(rand.NewSource(4))
	r.Read(plain)
	round(t, plain[:api.MaxBlock], nil)
	round(t, plain[:api.MaxBlock], plain[api.MaxBlock-70000:])
	round(t, mixed(r, api.MaxBlock), nil)
}

// P3.6, P3.8: texts of many kinds behind others.
func TestEncodeAndBack(t *testing.T) {
	r := rand.New(rand.NewSource(5))
	for i := range 300 {
		sizes := []int{20, 300, 3000, 150000}
		n, m := r.Intn(sizes[i%4]), r.Intn(sizes[i/4%4])
		all := mixed(r, n+m)
		round(t, all[m:], all[:m])
		round(t, all[m:], nil)
		round(t, all[:n], all[n:])
	}
}

// P3.6: texts that no match shortens, at the sizes at which the bound grows.
func TestEncodeOfNoise(t *testing.T) {
	noise := make([]byte, 70000)
	rand.New(rand.NewSource(6)).Read(noise)
	for _, n := range []int{14, 15, 16, 254, 255, 256, 269, 270, 271, 509, 510, 511, 524, 525, 526, 66000} {
		round(t, noise[:n], nil)
		round(t, noise[:n], noise[n:n+100])
	}
	// Four bytes that came before, ever again behind noise: each match is as short as one may be.
	var b []byte
	for i := range 1000 {
		b = append(b, noise[i*40:i*40+30*(i%9)]...)
		b = append(b, "four"...)
	}
	round(t, b, nil)
	round(t, b, []byte("four and four"))
}

// P3.6: a repeat that lies as far back as a match reaches, and one byte farther, wherever in a text it comes.
func TestEncodeReachesAsFarAsMayBe(t *testing.T) {
	noise := make([]byte, 70000)
	rand.New(rand.NewSource(7)).Read(noise)
	before := make([]byte, 70000)
	rand.New(rand.NewSource(17)).Read(before)
	for _, n := range []int{0, 1, 30000, 65536, 70000} {
		for _, far := range []int{65533, 65534, 65535, 65536, 65537} {
			text := slices.Concat(before[:n], noise[:far], noise[:2000])
			inside := round(t, text, nil)
			behind := round(t, text[n+far:], text[:n+far])
			if near := far <= 65535; near != (len(inside) < n+far+1000) || near != (len(behind) < 1000) {
				t.Errorf("%d back behind %d: %d bytes, behind ahead %d", far, n, len(inside), len(behind))
			}
		}
	}
}

// P3.6: a block hangs on the last 65535 bytes of ahead alone; and without ahead it needs none.
func TestEncodeHangsOnTheLastOfAhead(t *testing.T) {
	r := rand.New(rand.NewSource(8))
	all := mixed(r, 300000)
	for range 20 {
		m := 65535 + r.Intn(100000)
		ahead, plain := all[:m], all[m:m+r.Intn(100000)]
		want := round(t, plain, ahead[m-65535:])
		if got := round(t, plain, ahead); !bytes.Equal(got, want) {
			t.Fatalf("%d bytes behind %d: other bytes ahead of the last ones tell", len(plain), m)
		}
		other := slices.Concat(mixed(r, r.Intn(3000)), ahead[m-65535:])
		if got := round(t, plain, other); !bytes.Equal(got, want) {
			t.Fatalf("%d bytes behind %d others: other bytes ahead of the last ones tell", len(plain), m)
		}
		if got := round(t, plain, ahead); !bytes.Equal(got, want) {
			t.Fatal("asked again, another block")
		}
	}
}

// P3.6: what stands ahead is made use of.
func TestEncodeUsesAhead(t *testing.T) {
	noise := make([]byte, 5000)
	rand.New(rand.NewSource(9)).Read(noise)
	if b := round(t, noise[1000:4000], noise); len(b) > 100 {
		t.Error(len(b))
	}
	if b := round(t, noise, nil); len(b) < 5000 {
		t.Error(len(b))
	}
}

// P3.7: one byte over and over, alone and behind texts that mislead.
func TestEncodeOfOneByte(t *testing.T) {
	short := slices.Concat(bytes.Repeat([]byte("aaaab"), 3000), []byte("aaaa"))
	for _, ahead := range [][]byte{nil, []byte("a"), []byte("aaaa"), []byte("aaaab"), short, bytes.Repeat([]byte("a"), 70000), []byte("bbbbbbbb")} {
		for n := 64; n <= api.MaxBlock; n += 1 + n/3 {
			for _, k := range []int{n, n + 1} {
				if b := round(t, bytes.Repeat([]byte("a"), k), ahead); len(b) > 32+k/200 {
					t.Errorf("%d times behind %d bytes: %d bytes", k, len(ahead), len(b))
				}
			}
		}
		if b := round(t, bytes.Repeat([]byte("a"), api.MaxBlock), ahead); len(b) > 32+api.MaxBlock/200 {
			t.Errorf("behind %d bytes: %d bytes", len(ahead), len(b))
		}
	}
}

// The rule on memory: what is handed in stays as it is, spare room included, and no answer shares with it, nor with another list.
func TestMemory(t *testing.T) {
	room := func(b []byte) []byte { return append(slices.Clone(b), bytes.Repeat([]byte{0xee}, 200)...)[:len(b)] }
	intact := func(b, want []byte) bool {
		return bytes.Equal(b, want) && bytes.Count(b[len(b):cap(b)][:200], []byte{0xee}) == 200
	}
	text := bytes.Repeat([]byte("some text, and some more of it; "), 20)
	plain, ahead := room(text), room(text[:40])
	first, _ := lz.Encode(plain, ahead)
	block := room(first)
	out, _, _ := lz.Decode(block, ahead, len(plain))
	l, _, _ := lz.Parse(block)
	l = append(l[:0:0], l...)
	again, _ := lz.Make(l)
	played, _ := lz.Play(l, ahead, len(plain))
	for _, x := range []struct{ got, want []byte }{{plain, text}, {ahead, text[:40]}, {block, first}} {
		if !intact(x.got, x.want) {
			t.Fatal("an argument was changed")
		}
	}
	// Every list is overwritten, with its spare room; the others stay.
	lists := [][]byte{plain, ahead, first, block, out, again, played}
	for _, s := range l {
		lists = append(lists, s.Plain)
	}
	for i, b := range lists {
		b = b[:cap(b)]
		for j := range b {
			b[j] = byte(i)
		}
	}
	for i, b := range lists {
		for _, x := range b[:cap(b)] {
			if x != byte(i) {
				t.Fatalf("list %d shares memory", i)
			}
		}
	}
}
