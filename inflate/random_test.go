package inflate_test

import (
	"bytes"
	"compress/flate"
	"encoding/hex"
	"io"
	"math/rand"
	"slices"
	"strings"
	"testing"

	"satchel/api"
	"satchel/inflate"
)

// randomCode is a whole code of some of n symbols, of words of up to most bits, one of these symbols with the rest; of one alone, one of one bit.
func randomCode(random *rand.Rand, n, words, most int, with ...int) []int {
	lengths := []int{0}
	for len(lengths) < words {
		if i := random.Intn(len(lengths)); lengths[i] < most {
			lengths[i]++
			lengths = append(lengths, lengths[i])
		}
	}
	if words == 1 {
		lengths[0] = 1
	}
	l := make([]int, n)
	for _, symbol := range append(with, random.Perm(n)...) {
		if len(lengths) > 0 && l[symbol] == 0 {
			l[symbol], lengths = lengths[0], lengths[1:]
		}
	}
	return l
}

// randomTold is lengths by symbols of a code of their own, with runs wherever chance will have one.
func randomTold(random *rand.Rand, last bool, symbols, far []int) string {
	var ops []op
	l := slices.Concat(symbols, far)
	for i := 0; i < len(l); {
		run := 1
		for i+run < len(l) && l[i+run] == l[i] {
			run++
		}
		switch {
		case l[i] == 0 && run >= 11 && random.Intn(8) > 0:
			run = 11 + random.Intn(min(run, 138)-10)
			ops = append(ops, op{18, run - 11})
		case l[i] == 0 && run >= 3 && random.Intn(4) > 0:
			run = 3 + random.Intn(min(run, 10)-2)
			ops = append(ops, op{17, run - 3})
		case i > 0 && l[i-1] == l[i] && run >= 3 && random.Intn(4) > 0:
			run = 3 + random.Intn(min(run, 6)-2)
			ops = append(ops, op{16, run - 3})
		default:
			run = 1
			ops = append(ops, op{l[i], 0})
		}
		i += run
	}
	first := randomCode(random, 19, 19, 7)
	return ownHead(last, len(symbols), len(far), 19, first) + tell(first, ops...)
}

// randomBody is some symbols and matches by the words that there are, which reach no farther back than there is something.
func randomBody(random *rand.Rand, g tongue, symbols, size int) (string, int) {
	var row strings.Builder
	for range symbols {
		symbol := random.Intn(min(len(g.symbols), 286))
		if random.Intn(3) == 0 && len(g.symbols) > 258 {
			symbol = 257 + random.Intn(min(len(g.symbols), 286)-257)
		}
		if g.symbols[symbol] == "" || symbol == 256 {
			continue
		}
		if symbol < 256 {
			row.WriteString(g.symbols[symbol])
			size++
			continue
		}
		far := random.Intn(min(len(g.far), 30))
		farMore := random.Intn(1 << farBits[far])
		if g.far[far] == "" || farBase[far]+farMore > size {
			continue
		}
		more := random.Intn(1 << lengthBits[symbol-257])
		row.WriteString(g.match(symbol, more, far, farMore))
		size += lengthBase[symbol-257] + more
	}
	return row.String() + g.end(), size
}

// randomStream is blocks of all kinds.
func randomStream(random *rand.Rand) []byte {
	row, size := "", 0
	for blocks := 1 + random.Intn(4); blocks > 0; blocks-- {
		last := blocks == 1
		var body string
		switch random.Intn(4) {
		case 0:
			n := random.Intn(60)
			row = storedBehind(row, last, noise(int64(n), n))
			size += n
		case 1:
			body, size = randomBody(random, fixed(), random.Intn(60), size)
			row += head(last, 1) + body
		default:
			symbols := randomCode(random, 257+random.Intn(30), 1+random.Intn(40), 15, 256)
			far := randomCode(random, 1+random.Intn(30), 1, 15)
			if len(far) > 4 {
				far = randomCode(random, len(far), 1+random.Intn(len(far)-1), 15)
			}
			body, size = randomBody(random, tongue{wordsOf(symbols), wordsOf(far)}, random.Intn(200), size)
			row += randomTold(random, last, symbols, far) + body
		}
	}
	return bytesOf(row)
}

// P6.1 to P6.8: streams of blocks of all kinds with codes of all kinds, whole, with turned bits, and with less most than there is.
func TestRandomStreams(t *testing.T) {
	random := rand.New(rand.NewSource(6))
	for range 150 {
		b := randomStream(random)
		m := held(t, append(b, noise(1, random.Intn(4))...), api.MaxBlock)
		if m.why != api.OK || m.size() != len(b) {
			t.Fatalf("%s: %d, %d bytes", short(b), m.why, m.size())
		}
		againstOther(t, b)
		if len(m.plain) > 0 {
			held(t, b, len(m.plain))
			held(t, b, len(m.plain)-1)
			held(t, b, random.Intn(len(m.plain)))
		}
		for range 8 {
			wrong := slices.Clone(b)
			for range 1 + random.Intn(3) {
				wrong[random.Intn(len(wrong))] ^= 1 << random.Intn(8)
			}
			heldDecode(t, newModel(wrong, 5000), wrong)
			heldPieces(t, newModel(wrong, 5000), wrong, randomPieces(len(wrong)))
			againstOther(t, wrong)
		}
	}
}

// P6.5: bytes of chance, which begin as each kind does.
func TestRandomBytes(t *testing.T) {
	random := rand.New(rand.NewSource(65))
	for i := range 6000 {
		b := make([]byte, 1+random.Intn(60))
		random.Read(b)
		if i%2 == 0 {
			b[0] = b[0]&^6 | 4
		}
		m := newModel(b, 1+random.Intn(300))
		heldDecode(t, m, b)
		heldPieces(t, m, b, slices.Repeat([]int{1}, len(b)))
		againstOther(t, b)
	}
}

// againstOther holds Decode against another reader of the standard, which is less strict about the codes of lengths.
func againstOther(t *testing.T, b []byte) {
	t.Helper()
	in := bytes.NewReader(b)
	other, err := io.ReadAll(flate.NewReader(in))
	plain, n, why := inflate.Decode(b, api.MaxBlock)
	switch {
	case why == api.OK:
		if err != nil || !bytes.Equal(plain, other) || n != len(b)-in.Len() {
			t.Fatalf("%s: %d bytes, %d; another reader: %d bytes, %d, %v", short(b), len(plain), n, len(other), len(b)-in.Len(), err)
		}
	case err == nil && why != api.ErrLengths && len(other) <= api.MaxBlock:
		t.Fatalf("%s: %d; another reader: %d bytes", short(b), why, len(other))
	}
}

// texts are plain bytes of several kinds.
func texts() [][]byte {
	var words bytes.Buffer
	random := rand.New(rand.NewSource(66))
	for words.Len() < 150000 {
		words.WriteString([]string{"the ", "bag ", "is ", "full ", "of ", "things, ", "and ", "heavy. "}[random.Intn(8)])
		words.WriteByte(byte('a' + random.Intn(26)))
	}
	return [][]byte{nil, []byte("a"), []byte("a text that is told twice, a text that is told twice"), words.Bytes(), make([]byte, 300000), noise(67, 100000), bytes.Repeat(noise(68, 40000), 3)}
}

// P6.1, P6.6: streams that another program of the standard makes, in each of its ways, with blocks that it flushed.
func TestStreamsOfAnotherWriter(t *testing.T) {
	for level := flate.HuffmanOnly; level <= flate.BestCompression; level++ {
		for i, plain := range texts() {
			var b bytes.Buffer
			w, err := flate.NewWriter(&b, level)
			if err != nil {
				t.Fatal(err)
			}
			for piece := range slices.Chunk(plain, 1+len(plain)/3) {
				w.Write(piece)
				if i%2 == 0 {
					w.Flush()
				}
			}
			w.Close()
			m := newModel(b.Bytes(), len(plain))
			if m.why != api.OK || !bytes.Equal(m.plain, plain) || m.size() != b.Len() {
				t.Fatalf("level %d, text %d: %d, %d bytes", level, i, m.why, len(m.plain))
			}
			heldDecode(t, m, b.Bytes())
			heldBeginnings(t, m, b.Bytes())
			heldPieces(t, m, b.Bytes(), randomPieces(b.Len()))
			if b.Len() < 50000 {
				heldPieces(t, m, b.Bytes(), slices.Repeat([]int{1}, b.Len()))
			}
		}
	}
}

// P6.1: streams that zlib 1.2.13 made: with the fixed code, with one of its own, without matches, with matches of runs alone, stored, flushed in two ways.
func TestStreamsOfZlib(t *testing.T) {
	text := strings.Repeat("a text that is told twice, ", 3)
	for i := 100; i < 130; i++ {
		text += string([]byte{byte(i)})
	}
	var squares []byte
	for i := range 300 {
		squares = append(squares, byte('a'+i*i/8%11))
	}
	for _, x := range []struct{ plain, b string }{
		{text, "4b542849ad285128c9482c51c82c5628c9cf49512829cf4c4ed55148244b2a25352d3d23332b3b27372fbfa0b0a8b8a4b4acbca2b2aabaa6b6aebea11100"},
		{string(squares), "e5cab10d00300c02b05b214921e2ffbdea1df56c00ac1e6d384e296d0a07a23baa7898d57411cfd7f702"},
		{string(squares[:100]), "05c1b911c0401002b05af9ccded07f6e0900e5f48db9a9f3b1f8509e57edc2bdc622008072fac6dcd4f9587c28cfab76e15e63110040397d637e"},
		{strings.Repeat(strings.Repeat("a", 10)+strings.Repeat("b", 20)+strings.Repeat("c", 20), 2), "4b8483242c20190b488483242c20190b0000"},
		{text, "016f0090ff612074657874207468617420697320746f6c642074776963652c20612074657874207468617420697320746f6c642074776963652c20612074657874207468617420697320746f6c642074776963652c206465666768696a6b6c6d6e6f707172737475767778797a7b7c7d7e7f8081"},
		{text, "4a542849ad285128c9482c51c82c5628c9cf495100000000ffff2a29cf4c4ed55148449602000000ffffc22605000000ffffc22605000000ffff5248494d4bcfc8cccacec9cdcb2f282c2a2e292d03000000ffff2aafa8acaaaea9adab6f6804000000ffff0300"},
		{text, "4a542849ad285128c9482c51c82c5628c9cf49510008a092f2cce4541d854464298000c226051040d8a40002482125352d3d23332b3b27372fbfa0b0a8b8a4b40c2080ca2b2aabaa6b6aebea1b1a01020c00"},
	} {
		b, err := hex.DecodeString(x.b)
		if err != nil {
			t.Fatal(err)
		}
		if m := held(t, b, len(x.plain)); m.why != api.OK || string(m.plain) != x.plain || m.size() != len(b) {
			t.Errorf("%s: %q %d", x.b, m.plain, m.why)
		}
	}
}
