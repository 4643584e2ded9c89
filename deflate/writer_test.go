package deflate_test

import (
	"bytes"
	"math/rand"
	"slices"
	"testing"

	"satchel/api"
	"satchel/deflate"
	"satchel/inflate"
)

// tooLong is one byte more than may be written; no test writes to it.
var tooLong = make([]byte, api.MaxBlock+1)

// writing is a Writer whose answers are fed to a reader, with what was written, answered and read so far.
type writing struct {
	t                       *testing.T
	way                     int
	w                       *deflate.Writer
	r                       *inflate.Reader
	plain, answered, gotten []byte
}

func newWriting(t *testing.T, way int) *writing {
	t.Helper()
	w, why := deflate.NewWriter(way)
	r, _ := inflate.NewReader(api.MaxBlock)
	if w == nil || why != api.OK {
		t.Fatal(why)
	}
	return &writing{t: t, way: way, w: w, r: r}
}

// came takes what a call answered, and spoils it.
func (x *writing) came(b []byte, why api.Errno) {
	x.t.Helper()
	if why != api.OK {
		x.t.Fatalf("way %d, behind %d bytes: %d", x.way, len(x.plain), why)
	}
	x.answered = append(x.answered, b...)
	plain, why := x.r.Feed(b)
	if why != api.OK {
		x.t.Fatalf("way %d, behind %d bytes: the reader answers %d", x.way, len(x.plain), why)
	}
	spoil(b)
	x.gotten = append(x.gotten, plain...)
	if !bytes.HasPrefix(x.plain, x.gotten) {
		x.t.Fatalf("way %d, behind %d bytes: read are %s", x.way, len(x.plain), short(x.gotten))
	}
}

// write writes a piece, which is spoiled behind that.
func (x *writing) write(plain []byte) {
	x.t.Helper()
	x.plain = append(x.plain, plain...)
	in, unchanged := spare(x.t, plain)
	b, why := x.w.Write(in)
	unchanged()
	spoil(in)
	x.came(b, why)
}

// flush holds a Flush to P7.5: all that was written can be read.
func (x *writing) flush() {
	x.t.Helper()
	x.came(x.w.Flush())
	if !bytes.Equal(x.gotten, x.plain) || x.r.Done() {
		x.t.Fatalf("way %d, flushed behind %s: read are %s", x.way, short(x.plain), short(x.gotten))
	}
}

// close holds a Close to P7.5 and P7.6, and what comes behind it to P7.5, and answers the stream.
func (x *writing) close() []byte {
	x.t.Helper()
	x.came(x.w.Close())
	if !bytes.Equal(x.gotten, x.plain) || !x.r.Done() || len(x.r.Rest()) > 0 {
		x.t.Fatalf("way %d, closed behind %s: read are %s, with %d bytes behind", x.way, short(x.plain), short(x.gotten), len(x.r.Rest()))
	}
	got, n, why := inflate.Decode(x.answered, len(x.plain))
	if why != api.OK || n != len(x.answered) || !bytes.Equal(got, x.plain) {
		x.t.Fatalf("way %d, closed behind %s: Decode: %s %d %d", x.way, short(x.plain), short(got), n, why)
	}
	if got, err := other(x.answered); err != nil || !bytes.Equal(got, x.plain) {
		x.t.Fatalf("way %d, closed behind %s: another reads %s %v", x.way, short(x.plain), short(got), err)
	}
	// Beside those of the way there are empty stored ones alone, that fill a byte up.
	for _, b := range read(x.t, x.answered).blocks {
		if x.way != deflate.Best && b.kind != x.way && (b.kind != 0 || b.plain > 0) {
			x.t.Fatalf("way %d, closed behind %s: a block of the kind %d", x.way, short(x.plain), b.kind)
		}
	}
	x.closed()
	return x.answered
}

// closed holds a Writer to what it answers behind Close.
func (x *writing) closed() {
	x.t.Helper()
	for _, plain := range [][]byte{nil, []byte("d"), tooLong} {
		if b, why := x.w.Write(plain); b != nil || why != api.ErrArg {
			x.t.Fatalf("way %d: Write behind Close: %s %d", x.way, short(b), why)
		}
	}
	if b, why := x.w.Flush(); b != nil || why != api.ErrArg {
		x.t.Fatalf("way %d: Flush behind Close: %s %d", x.way, short(b), why)
	}
	if b, why := x.w.Close(); b != nil || why != api.ErrArg {
		x.t.Fatalf("way %d: Close behind Close: %s %d", x.way, short(b), why)
	}
}

// The chapter's third example, in every way.
func TestWriterExample(t *testing.T) {
	for _, way := range ways {
		x := newWriting(t, way)
		x.write([]byte("ab"))
		x.flush()
		x.write([]byte("c"))
		x.close()
		if string(x.gotten) != "abc" {
			t.Errorf("%q", x.gotten)
		}
	}
}

// P7.5, P7.6: nothing written, with and without a Flush; pieces of no bytes; a Flush ahead of all, and twice in a row.
func TestWriterOfNothing(t *testing.T) {
	for _, way := range ways {
		newWriting(t, way).close()
		for _, empty := range [][]byte{nil, {}} {
			x := newWriting(t, way)
			x.flush()
			x.flush()
			x.write(empty)
			x.flush()
			x.write(empty)
			x.close()
		}
	}
}

// tales are the texts that are written in pieces.
func tales() [][]byte {
	return [][]byte{
		nil,
		[]byte("a"),
		[]byte("to be or not to be, that is the question; to be"),
		make([]byte, 70),
		noise(1, 60),
		mixed(rand.New(rand.NewSource(2)), 300),
	}
}

// P7.5, P7.6: byte by byte, without a Flush, with one behind each byte, with two, and with pieces of no bytes between.
func TestWriterByteByByte(t *testing.T) {
	for _, way := range ways {
		for _, plain := range tales() {
			for flushes := range 3 {
				x := newWriting(t, way)
				for range flushes {
					x.flush()
				}
				for _, v := range plain {
					x.write([]byte{v})
					x.write(nil)
					for range flushes {
						x.flush()
					}
				}
				x.close()
			}
		}
	}
}

// P7.5, P7.6: at every cut, with a Flush at it or not.
func TestWriterAtEveryCut(t *testing.T) {
	t.Parallel()
	for _, way := range ways {
		for _, plain := range tales() {
			for cut := range len(plain) + 1 {
				for flushes := range 3 {
					x := newWriting(t, way)
					x.write(plain[:cut])
					for range flushes {
						x.flush()
					}
					x.write(plain[cut:])
					if cut%2 == 0 {
						x.flush()
					}
					x.close()
				}
			}
		}
	}
}

// P7.5, P7.6: long texts in pieces by chance, and about the sizes of stored blocks.
func TestWriterOfLongTexts(t *testing.T) {
	t.Parallel()
	r := rand.New(rand.NewSource(75))
	for _, way := range ways {
		for _, size := range []int{65534, 65535, 65536, 131069, 131070, 131071} {
			x := newWriting(t, way)
			x.write(mixed(r, size))
			x.write([]byte("!"))
			x.write(noise(1, size))
			x.flush()
			x.write(nil)
			x.write(mixed(r, size))
			x.close()
		}
		for range 10 {
			x := newWriting(t, way)
			for plain := mixed(r, 300000); len(plain) > 0; {
				n := min(len(plain), 1+r.Intn(1+r.Intn(100000)))
				x.write(plain[:n])
				plain = plain[n:]
				if r.Intn(3) == 0 {
					x.flush()
				}
			}
			x.close()
		}
	}
}

// P7.6: byte by byte over the sizes of blocks.
func TestWriterOfManyBytes(t *testing.T) {
	t.Parallel()
	plain := mixed(rand.New(rand.NewSource(76)), 140000)
	for _, way := range ways {
		x := newWriting(t, way)
		for i := range plain {
			x.plain = plain[:i+1]
			x.came(x.w.Write(plain[i : i+1 : i+1]))
		}
		x.close()
	}
}

// P7.5: as many bytes as may be, and one more: at one time, in pieces, byte by byte at the end; what was refused changes nothing.
func TestWriterOfTooMany(t *testing.T) {
	t.Parallel()
	long := over(noise(7, 999), api.MaxBlock+1)
	for _, way := range ways {
		for _, pieces := range [][]int{{api.MaxBlock}, {api.MaxBlock - 1, 1}, {1, api.MaxBlock - 1}, {1 << 21, 1<<21 - 3, 0, 1, 1, 1}} {
			x := newWriting(t, way)
			x.refuses(long)
			at := 0
			for _, n := range pieces {
				x.write(long[at : at+n])
				at += n
				x.refuses(long[:api.MaxBlock-at+1])
				x.refuses(long)
			}
			x.write(nil)
			x.flush()
			x.refuses([]byte{1})
			x.close()
		}
	}
}

// refuses holds a Writer to ErrLong.
func (x *writing) refuses(plain []byte) {
	x.t.Helper()
	if b, why := x.w.Write(plain); b != nil || why != api.ErrLong {
		x.t.Fatalf("way %d, behind %d bytes: Write of %d: %s %d", x.way, len(x.plain), len(plain), short(b), why)
	}
}

// What a Writer answers hangs on its own calls alone, and stays as it was answered.
func TestWritersApart(t *testing.T) {
	r := rand.New(rand.NewSource(78))
	for _, way := range ways {
		pieces := [][]byte{mixed(r, 100), mixed(r, 70000), nil, mixed(r, 3000)}
		alone := answers(t, way, pieces, func() {})
		beside, _ := deflate.NewWriter(way)
		between := answers(t, way, pieces, func() {
			beside.Write(noise(3, 1000))
			beside.Flush()
		})
		for i := range alone {
			if !bytes.Equal(alone[i], between[i]) {
				t.Errorf("way %d, call %d: %s, and beside another Writer %s", way, i, short(alone[i]), short(between[i]))
			}
		}
	}
}

// answers is what all calls answer, looked at behind the last one, with something done ahead of each.
func answers(t *testing.T, way int, pieces [][]byte, do func()) [][]byte {
	t.Helper()
	w, _ := deflate.NewWriter(way)
	var all, kept [][]byte
	keep := func(b []byte, why api.Errno) {
		if why != api.OK {
			t.Fatal(why)
		}
		all = append(all, b)
		kept = append(kept, slices.Clone(b))
		do()
	}
	for _, plain := range pieces {
		keep(w.Write(plain))
		keep(w.Flush())
	}
	keep(w.Close())
	for i := range all {
		if !bytes.Equal(all[i], kept[i]) {
			t.Fatalf("way %d: what call %d answered was changed", way, i)
		}
	}
	return kept
}
