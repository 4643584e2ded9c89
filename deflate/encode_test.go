package deflate_test

import (
	"bytes"
	"encoding/hex"
	"math"
	"math/rand"
	"slices"
	"testing"

	"satchel/api"
	"satchel/deflate"
	"satchel/inflate"
)

// held holds Encode of plain in every way to P7.1, P7.2, P7.3, P7.7 and the rules, and answers the streams.
func held(t *testing.T, plain []byte) [][]byte {
	t.Helper()
	in, unchanged := spare(t, plain)
	var all [][]byte
	for _, way := range ways {
		b, why := deflate.Encode(in, way)
		if why != api.OK {
			t.Fatalf("Encode of %s, %d: %d", short(plain), way, why)
		}
		kept := slices.Clone(b)
		again, _ := deflate.Encode(in, way)
		if !bytes.Equal(again, kept) {
			t.Fatalf("Encode of %s, %d, said twice: %s, not %s", short(plain), way, short(again), short(kept))
		}
		spoil(again)
		if !bytes.Equal(b, kept) {
			t.Fatalf("Encode of %s, %d: two answers share their memory", short(plain), way)
		}
		unchanged()
		heldBack(t, plain, b, way)
		all = append(all, b)
	}
	if !bytes.Equal(all[deflate.Stored], modelStored(plain)) {
		t.Fatalf("Encode of %s, Stored: %s", short(plain), short(all[deflate.Stored]))
	}
	for way, b := range all {
		if best := len(all[deflate.Best]); best > len(b) || best > deflate.Bound(len(plain)) {
			t.Fatalf("Encode of %s: the best way has %d bytes, the way %d %d", short(plain), best, way, len(b))
		}
	}
	return all
}

// heldBack reads a stream by inflate, by the model and by another reader of the standard.
func heldBack(t *testing.T, plain, b []byte, way int) {
	t.Helper()
	got, n, why := inflate.Decode(b, len(plain))
	if why != api.OK || n != len(b) || !bytes.Equal(got, plain) {
		t.Fatalf("Decode of Encode of %s, %d: %s %d %d, of %d bytes", short(plain), way, short(got), n, why, len(b))
	}
	if got, err := other(b); err != nil || !bytes.Equal(got, plain) {
		t.Fatalf("another reads Encode of %s, %d: %s %v", short(plain), way, short(got), err)
	}
	m := read(t, b)
	if !bytes.Equal(m.plain, plain) || !m.ofWay(way) {
		t.Fatalf("the model reads Encode of %s, %d: %s, %d blocks", short(plain), way, short(m.plain), len(m.blocks))
	}
}

// The chapter's examples of Encode.
func TestExamples(t *testing.T) {
	for _, x := range []struct {
		plain string
		way   int
		want  string
	}{
		{"", deflate.Stored, "010000ffff"},
		{"a", deflate.Stored, "010100feff61"},
		{"a", deflate.Fixed, "4b0400"},
		{"", deflate.Fixed, "0300"}, // there is no other one
	} {
		b, why := deflate.Encode([]byte(x.plain), x.way)
		if hex.EncodeToString(b) != x.want || why != api.OK {
			t.Errorf("Encode of %q, %d: %x %d", x.plain, x.way, b, why)
		}
	}
}

// P7.1: ways that are none, also of too many bytes, and too many bytes.
func TestRefusals(t *testing.T) {
	for _, way := range []int{math.MinInt, -1, 4, 5, 1 << 32, math.MaxInt} {
		for _, plain := range [][]byte{nil, []byte("a"), tooLong} {
			if b, why := deflate.Encode(plain, way); b != nil || why != api.ErrArg {
				t.Errorf("Encode of %s, %d: %s %d", short(plain), way, short(b), why)
			}
		}
		if w, why := deflate.NewWriter(way); w != nil || why != api.ErrArg {
			t.Errorf("NewWriter(%d): %v %d", way, w, why)
		}
	}
	for _, way := range ways {
		if b, why := deflate.Encode(tooLong, way); b != nil || why != api.ErrLong {
			t.Errorf("Encode of %s, %d: %s %d", short(tooLong), way, short(b), why)
		}
		if w, why := deflate.NewWriter(way); w == nil || why != api.OK {
			t.Errorf("NewWriter(%d): %v %d", way, w, why)
		}
	}
}

// P7.3: Bound, at the edges that the document names.
func TestBound(t *testing.T) {
	for n, want := range map[int]int{
		math.MinInt: 0, -1: 0, 0: 5, 1: 11, 2: 12, 65534: 65544, 65535: 65545, 65536: 65551, 65537: 65552, 131070: 131085, 131071: 131091,
		api.MaxBlock - 1: api.MaxBlock - 1 + 5*65 + 5, api.MaxBlock: api.MaxBlock + 5*65 + 5, api.MaxBlock + 1: 0, math.MaxInt: 0,
	} {
		if got := deflate.Bound(n); got != want {
			t.Errorf("Bound(%d): %d, not %d", n, got, want)
		}
	}
}

// P7.1 to P7.3, P7.7: sizes about those of stored blocks, of noise and of what is said twice.
func TestSizes(t *testing.T) {
	t.Parallel()
	for _, n := range []int{0, 1, 2, 3, 4, 255, 256, 257, 65534, 65535, 65536, 131069, 131070, 131071, 131072} {
		held(t, noise(int64(n), n))
		held(t, make([]byte, n))
		held(t, over([]byte("to be or not to be, that is the question; "), n))
	}
}

// P7.1 to P7.3, P7.7: as many bytes as may be.
func TestMaxBlock(t *testing.T) {
	t.Parallel()
	held(t, make([]byte, api.MaxBlock))
	held(t, mixed(rand.New(rand.NewSource(71)), api.MaxBlock))
	plain := noise(72, api.MaxBlock)
	for _, way := range ways {
		b, why := deflate.Encode(plain, way)
		if why != api.OK || way == deflate.Best && len(b) > deflate.Bound(len(plain)) {
			t.Fatal(way, len(b), why)
		}
		if got, n, why := inflate.Decode(b, len(plain)); why != api.OK || n != len(b) || !bytes.Equal(got, plain) {
			t.Fatal(way, n, why)
		}
	}
}

// P7.1, P7.7: every text of few bytes of two letters, and of one byte.
func TestSmallTexts(t *testing.T) {
	for n := range 10 {
		for v := range 1 << n {
			plain := make([]byte, n)
			for i := range plain {
				plain[i] = "ab"[v>>i&1]
			}
			held(t, plain)
		}
	}
	for v := range 256 {
		held(t, []byte{byte(v)})
		held(t, bytes.Repeat([]byte{byte(v)}, 300))
	}
}

// P7.1, P7.7: plain bytes of just one value, of two, of many, and of all alike: so the lengths of an own block are told in runs of all sizes.
func TestValues(t *testing.T) {
	t.Parallel()
	var all []byte
	for v := range 256 {
		all = append(all, byte(v))
	}
	held(t, all)
	held(t, bytes.Repeat(all, 20))
	shuffled := bytes.Repeat(all, 100)
	rand.New(rand.NewSource(73)).Shuffle(len(shuffled), func(i, j int) { shuffled[i], shuffled[j] = shuffled[j], shuffled[i] })
	held(t, shuffled)
	for v := range 256 {
		held(t, []byte{byte(v), 255 - byte(v)})
		held(t, []byte{0, byte(v), 255})
		held(t, all[:v])
		held(t, all[v:])
	}
	// Each value once or twice, a stretch of them not at all.
	for gap := 1; gap < 160; gap++ {
		held(t, slices.Concat(all[:20], all[20+gap:], all[20+gap:21+gap]))
		held(t, slices.Concat(all[:1], all[200-gap:200]))
	}
}

// P7.1, P7.7: values that come as often as makes the words of the rare ones longer than a word may be.
func TestRareValues(t *testing.T) {
	t.Parallel()
	for most := 2; most <= 24; most++ {
		var plain []byte
		x, y := 1, 1
		for v := range most {
			plain = append(plain, bytes.Repeat([]byte{byte(v * 7)}, x)...)
			x, y = y, x+y
		}
		r := rand.New(rand.NewSource(int64(most)))
		r.Shuffle(len(plain), func(i, j int) { plain[i], plain[j] = plain[j], plain[i] })
		held(t, plain)
	}
}

// P7.1, P7.7: matches of every length, near and far.
func TestLengths(t *testing.T) {
	t.Parallel()
	for length := 1; length <= 300; length++ {
		ahead := noise(int64(length), 400)
		held(t, slices.Concat(ahead, []byte("!"), ahead[20:20+length], []byte("?")))
		held(t, slices.Concat(ahead[:3], bytes.Repeat([]byte{7}, length+1)))
	}
	for _, length := range []int{3, 4, 257, 258, 259, 260, 261, 515, 516, 517, 519, 775} {
		ahead := noise(int64(length), 1000)
		all := held(t, append(ahead, ahead[:length]...))
		sum := 0
		for _, x := range read(t, all[deflate.Fixed]).blocks[0].matches {
			sum += x.length
		}
		// What is left behind a match of 258 bytes may be too short for another one.
		if sum < length-2 {
			t.Errorf("of %d bytes that come again %d are matched", length, sum)
		}
	}
}

// P7.1, P7.7: matches of every distance's symbol with its least and its greatest further bits.
func TestDistances(t *testing.T) {
	for far := range 30 {
		for _, distance := range []int{farBase[far], farBase[far] + 1<<farBits[far] - 1} {
			ahead := noise(int64(far), distance)
			all := held(t, append(ahead, over(ahead, 40)...))
			matches := read(t, all[deflate.Dynamic]).blocks[0].matches
			if len(matches) == 0 || matches[len(matches)-1].distance != distance {
				t.Errorf("what comes again %d bytes behind: %v", distance, matches)
			}
		}
	}
}

// P7.7: what comes again just so far back as a match may lie, and one byte farther, wherever it stands.
func TestReach(t *testing.T) {
	t.Parallel()
	for _, ahead := range []int{0, 1, 2, 32767, 32768, 40000} {
		for _, far := range []int{32767, 32768, 32769, 32770} {
			text := noise(int64(far), far)
			plain := slices.Concat(noise(5, ahead), text, text[:5000])
			all := held(t, plain)
			if reached := len(all[deflate.Best]) < len(plain)-4000; reached != (far <= 32768) {
				t.Errorf("what comes again %d bytes behind %d: %d bytes of %d", far, ahead, len(all[deflate.Best]), len(plain))
			}
		}
	}
}

// P7.1 to P7.3, P7.7: texts by chance, of all kinds.
func TestRandomTexts(t *testing.T) {
	t.Parallel()
	r := rand.New(rand.NewSource(77))
	for i := range 400 {
		held(t, mixed(r, r.Intn([]int{10, 300, 3000, 20000}[i%4])))
	}
	for range 6 {
		held(t, mixed(r, 100000+r.Intn(200000)))
	}
	for few := 1; few <= 40; few++ {
		held(t, letters(int64(few), 5000, few))
	}
}

// P7.3: the best way may be another one for each piece of a text: it is then better than all others.
func TestBestOfMany(t *testing.T) {
	t.Parallel()
	var plain []byte
	for i := range 4 {
		plain = append(plain, noise(int64(i), 40000)...)
		plain = append(plain, letters(int64(i), 100000, 3)...)
	}
	all := held(t, plain)
	if best := len(all[deflate.Best]); best > len(all[deflate.Dynamic])*99/100 {
		t.Errorf("the best way has %d bytes, one block with codes of its own %d", best, len(all[deflate.Dynamic]))
	}
}
