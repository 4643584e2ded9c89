package xxh_test

import (
	"bytes"
	"math/rand"
	"testing"

	"satchel/xxh"
)

// P2.1: the chapter's first example.
func TestSumsOfTheExamples(t *testing.T) {
	for _, c := range []struct {
		text string
		low  uint32
		high uint64
	}{
		{"", 0x02cc5d05, 0xef46db3751d8e999},
		{"abc", 0x32d153ff, 0x44bc2cf5ad770999},
	} {
		if got := xxh.Sum32(0, []byte(c.text)); got != c.low {
			t.Errorf("Sum32 of %q: %08x", c.text, got)
		}
		if got := xxh.Sum64(0, []byte(c.text)); got != c.high {
			t.Errorf("Sum64 of %q: %016x", c.text, got)
		}
	}
	if xxh.Sum32(0, nil) != 0x02cc5d05 || xxh.Sum64(0, nil) != 0xef46db3751d8e999 {
		t.Error("nil is not as no bytes")
	}
}

// P2.1: sums that another program of the family tells, at the edges of words and stripes.
func TestSumsThatAreKnown(t *testing.T) {
	long := make([]byte, 200)
	for i := range long {
		long[i] = byte(i*7 + i/8)
	}
	for _, c := range []struct {
		size int
		low  uint32
		high uint64
	}{
		{1, 0xcf65b03e, 0xe934a84adb052768}, {2, 0x8fd2707f, 0x2c1bc603fe31338c},
		{3, 0x14744175, 0x9ff70a635a6209ab}, {4, 0xc8f60fc5, 0xae5acdc00a55ac41},
		{5, 0xfd68f46f, 0x8ad58ce18a6fd093}, {7, 0x33328eed, 0xd734a6b26f3da63e},
		{8, 0x6edeeb34, 0x87116b3365b924eb}, {9, 0x07779551, 0x28b432b77109e5ed},
		{15, 0x52ad7fe2, 0x03ff36d0e0b436db}, {16, 0xe15bb6c5, 0x88ab36a1d58cd9a8},
		{17, 0x036abc77, 0x8f42299d65806af1}, {20, 0x94d38ad1, 0x25f4cc3f7123ad2c},
		{31, 0x061c48ae, 0xf78c1ce7c4912b21}, {32, 0x930d6a53, 0x613ab3aebca0263c},
		{33, 0xd4cf07aa, 0xd91e0b8c7b5408af}, {36, 0x2103f474, 0xdee3a176e2788c97},
		{44, 0xbd4c6f06, 0x21a71981dfb9c068}, {63, 0x99b5c917, 0xa8a1d81db5cbee19},
		{64, 0xbc44721a, 0xd1ffe5fb5b260ea6}, {65, 0xf5a63e69, 0x33adc8462cfc53bf},
		{100, 0xae022d4c, 0xc926db22d743d033}, {200, 0x20101f58, 0x27bca7b77e99b2df},
	} {
		if got := xxh.Sum32(0, long[:c.size]); got != c.low {
			t.Errorf("Sum32 of %d bytes: %08x", c.size, got)
		}
		if got := xxh.Sum64(0, long[:c.size]); got != c.high {
			t.Errorf("Sum64 of %d bytes: %016x", c.size, got)
		}
	}
}

// P2.1: the family's own table, with a seed.
func TestSumsWithASeedThatAreKnown(t *testing.T) {
	const prime = 2654435761
	var long [101]byte
	for i, n := 0, uint32(prime); i < len(long); i, n = i+1, n*n {
		long[i] = byte(n >> 24)
	}
	for _, c := range []struct {
		size int
		low  uint32
		high uint64
	}{
		{0, 0x36b78ae7, 0xac75fda2929b17ef},
		{1, 0xd5845d64, 0x739840cb819fa723},
		{14, 0x4481951d, 0x5b9611585efcc9cb},
		{101, 0x498ec8e2, 0xcaa65939306f1e21},
	} {
		if got := xxh.Sum32(prime, long[:c.size]); got != c.low {
			t.Errorf("Sum32 of %d bytes: %08x", c.size, got)
		}
		if got := xxh.Sum64(prime, long[:c.size]); got != c.high {
			t.Errorf("Sum64 of %d bytes: %016x", c.size, got)
		}
	}
}

// P2.1: every length up to some stripes, with seeds at which sums wrap.
func TestSumsAreTheModels(t *testing.T) {
	for _, w := range widths() {
		for n := 0; n <= 200; n++ {
			for _, seed := range w.seeds {
				for _, b := range [][]byte{text(n), make([]byte, n), bytes.Repeat([]byte{255}, n)} {
					if got, want := w.sum(seed, b), w.model(seed, b); got != want {
						t.Fatalf("Sum%s(%d, %x): %x, want %x", w.name, seed, b, got, want)
					}
				}
			}
		}
		if b := text(1<<20 + 5); w.sum(3, b) != w.model(3, b) {
			t.Errorf("Sum%s of many bytes", w.name)
		}
	}
}

// P2.4: of every word and every single byte that the promise names, another value has another sum.
func TestAnotherWordHasAnotherSum(t *testing.T) {
	chance := rand.New(rand.NewSource(4))
	for _, w := range widths() {
		for n := 1; n <= 80; n++ {
			for _, span := range spans(w, n) {
				b := text(n)
				seen := map[uint64]string{}
				for range 40 {
					sum, word := w.sum(9, b), string(b[span[0]:span[1]])
					if other, ok := seen[sum]; ok && other != word {
						t.Fatalf("Sum%s of %d bytes: %x and %x at %d are alike", w.name, n, other, word, span[0])
					}
					seen[sum] = word
					chance.Read(b[span[0]:span[1]])
				}
			}
		}
	}
}

// spans are the words and bytes of which P2.4 speaks, in a text of n bytes.
func spans(w width, n int) [][2]int {
	var out [][2]int
	at, step := 0, 4
	if w.stripe == 32 {
		at, step = n/32*32, 8
	}
	for ; at+step <= n; at += step {
		out = append(out, [2]int{at, at + step})
	}
	for at = n / 4 * 4; at < n; at++ {
		out = append(out, [2]int{at, at + 1})
	}
	return out
}

// P2.5
func TestAnotherSeedHasAnotherSum(t *testing.T) {
	chance := rand.New(rand.NewSource(5))
	for _, w := range widths() {
		for n := range w.stripe {
			b := text(n)
			seen := map[uint64]uint64{}
			for i := range uint64(2000) {
				seed := i
				if i%2 == 1 {
					seed = chance.Uint64()
				}
				if w.stripe == 16 {
					seed = uint64(uint32(seed))
				}
				sum := w.sum(seed, b)
				if other, ok := seen[sum]; ok && other != seed {
					t.Fatalf("Sum%s of %d bytes: the seeds %d and %d are alike", w.name, n, seed, other)
				}
				seen[sum] = seed
			}
		}
	}
}

// DOC.md, Memory and From arguments alone: the bytes and their spare room stay, and a second call answers the same.
func TestSumsLeaveTheirBytes(t *testing.T) {
	for _, w := range widths() {
		for n := range 100 {
			room := text(n + 40)
			was := bytes.Clone(room)
			first := w.sum(2, room[:n])
			if w.sum(2, room[:n]) != first || !bytes.Equal(room, was) {
				t.Errorf("Sum%s of %d bytes changed something", w.name, n)
			}
		}
	}
}
