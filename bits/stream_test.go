package bits_test

import (
	"bytes"
	"math"
	"math/rand"
	"slices"
	"testing"

	"satchel/api"
	"satchel/bits"
)

// P5.1: the chapter's first example.
func TestReaderExample(t *testing.T) {
	r := bits.NewReader([]byte{0xb5})
	if v, why := r.Take(1); v != 1 || why != api.OK {
		t.Error(v, why)
	}
	if v, why := r.Take(3); v != 2 || why != api.OK || r.Left() != 4 {
		t.Error(v, why, r.Left())
	}
	r.Align()
	if r.Left() != 0 {
		t.Error(r.Left())
	}
	if v, why := r.Take(1); v != 0 || why != api.ErrBits {
		t.Error(v, why)
	}
}

// P5.2: the chapter's first example.
func TestWriterExample(t *testing.T) {
	var w bits.Writer
	if w.Put(5, 3) != api.OK || w.Put(1, 2) != api.OK {
		t.Error("refused")
	}
	if why := w.Put(8, 3); why != api.ErrArg {
		t.Error(why)
	}
	if b := w.Done(); !bytes.Equal(b, []byte{0x0d}) || w.Len() != 5 {
		t.Error(b, w.Len())
	}
}

// P5.1: so many bits as the document names, from every place of a byte on, with all of them there and with one missing.
func TestTakeOfEveryWidth(t *testing.T) {
	b := []byte{0x5a, 0xff, 0x01, 0x80, 0xc3, 0x77, 0x10}
	for begin := range 9 {
		for _, n := range []int{math.MinInt, -1, 0, 1, 2, 7, 8, 9, 15, 16, 17, 24, 25, 31, 32, 33, 64, math.MaxInt} {
			r, m := bits.NewReader(b), modelReader{rowOf(b)}
			r.Take(begin)
			m.take(begin)
			v, why := r.Take(n)
			if want, wantWhy := m.take(n); v != want || why != wantWhy || r.Left() != len(m.left) {
				t.Errorf("Take(%d) behind %d bits: %x %d with %d left, not %x %d with %d", n, begin, v, why, r.Left(), want, wantWhy, len(m.left))
			}
			if n < 0 || n > 32 {
				continue
			}
			row := rowOf(b)[:n]
			if v, why := at(t, row).Take(n); v != numberOf(row) || why != api.OK {
				t.Errorf("Take(%d) of all bits: %x %d", n, v, why)
			}
			short := at(t, row)
			if v, why := short.Take(n + 1); v != 0 || why == api.OK || n < 32 && why != api.ErrBits {
				t.Errorf("Take of one more than %d bits: %x %d", n, v, why)
			}
			if v, why := short.Take(n); v != numberOf(row) || why != api.OK || short.Left() != 0 {
				t.Errorf("Take(%d) behind a refusal: %x %d", n, v, why)
			}
		}
	}
}

// P5.1: ErrArg comes ahead of ErrBits, and takes nothing.
func TestTakeRefusedFirst(t *testing.T) {
	for _, n := range []int{-1, 33} {
		r := bits.NewReader([]byte{7})
		if v, why := r.Take(n); v != 0 || why != api.ErrArg || r.Left() != 8 {
			t.Error(n, v, why, r.Left())
		}
		if v, why := bits.NewReader(nil).Take(n); v != 0 || why != api.ErrArg {
			t.Error(n, v, why)
		}
	}
	if v, why := bits.NewReader(nil).Take(0); v != 0 || why != api.OK {
		t.Error(v, why)
	}
}

// P5.1: Align at a byte's beginning, at every place within one, and at the end.
func TestReaderAlign(t *testing.T) {
	for n := range 17 {
		r := bits.NewReader([]byte{1, 2})
		r.Take(n)
		for range 2 {
			r.Align()
			if want := 16 - (n+7)/8*8; r.Left() != want {
				t.Errorf("behind %d bits: %d left, not %d", n, r.Left(), want)
			}
		}
	}
	r := bits.NewReader(nil)
	r.Align()
	if r.Left() != 0 {
		t.Error(r.Left())
	}
}

// P5.1: Bytes from every place on: none, all that are left, one more, far more, and below 0, with which Align stays done.
func TestReaderBytes(t *testing.T) {
	b := []byte{1, 2, 3, 4}
	for begin := range 33 {
		whole := b[(begin+7)/8:]
		for _, n := range []int{math.MinInt, -1, 0, 1, len(whole), len(whole) + 1, math.MaxInt/8 + 1, math.MaxInt} {
			r := bits.NewReader(b)
			r.Take(min(begin, 32))
			got, why := r.Bytes(n)
			want, wantWhy := []byte(nil), api.OK
			switch {
			case n < 0:
				wantWhy = api.ErrArg
			case n > len(whole):
				wantWhy = api.ErrBits
			default:
				want = whole[:n]
			}
			if !bytes.Equal(got, want) || why != wantWhy || r.Left() != 8*(len(whole)-len(want)) {
				t.Errorf("Bytes(%d) behind %d bits: %v %d with %d left, not %v %d", n, begin, got, why, r.Left(), want, wantWhy)
			}
		}
	}
}

// P5.1: any calls, one behind the other, against the model.
func TestReaderAtRandom(t *testing.T) {
	random := rand.New(rand.NewSource(51))
	for range 3000 {
		b := make([]byte, random.Intn(40))
		random.Read(b)
		r, m := bits.NewReader(b), modelReader{rowOf(b)}
		for range 25 {
			switch random.Intn(4) {
			case 0:
				r.Align()
				m.align()
			case 1:
				n := random.Intn(6) - 1
				got, why := r.Bytes(n)
				if want, wantWhy := m.bytes(n); !bytes.Equal(got, want) || why != wantWhy {
					t.Fatalf("%x: Bytes(%d): %x %d, not %x %d", b, n, got, why, want, wantWhy)
				}
			default:
				n := random.Intn(36) - 2
				got, why := r.Take(n)
				if want, wantWhy := m.take(n); got != want || why != wantWhy {
					t.Fatalf("%x: Take(%d): %x %d, not %x %d", b, n, got, why, want, wantWhy)
				}
			}
			if r.Left() != len(m.left) {
				t.Fatalf("%x: %d left, not %d", b, r.Left(), len(m.left))
			}
		}
	}
}

// P5.2: a Writer that no call was made on wrote nothing, and calls that write no bits leave it so.
func TestWriterOfNothing(t *testing.T) {
	var w bits.Writer
	for range 2 {
		if b := w.Done(); len(b) != 0 || w.Len() != 0 {
			t.Error(b, w.Len())
		}
		w.Align()
		w.Add(nil)
		w.Put(0, 0)
		w.Put(1, 0)
		w.Put(0, -1)
	}
}

// P5.2: so many bits as the document names, at every place of a byte: the number just below 2^n, and 2^n itself.
func TestPutOfEveryWidth(t *testing.T) {
	for begin := range 9 {
		for n := -1; n <= 33; n++ {
			for _, v := range []uint32{0, 1, 1<<max(n, 0) - 1, 1 << max(n, 0), 1<<max(n, 0) + 1, math.MaxUint32} {
				var w bits.Writer
				var m modelWriter
				for range begin {
					w.Put(1, 1)
					m.put(1, 1)
				}
				if why, want := w.Put(v, n), m.put(v, n); why != want {
					t.Errorf("Put(%#x, %d): %d, not %d", v, n, why, want)
				}
				if b := w.Done(); !bytes.Equal(b, bytesOf(m.row)) || w.Len() != len(m.row) {
					t.Errorf("Put(%#x, %d) behind %d bits: %x of %d bits, not %x of %d", v, n, begin, b, w.Len(), bytesOf(m.row), len(m.row))
				}
			}
		}
	}
	var w bits.Writer
	for _, n := range []int{math.MinInt, math.MinInt + 1, -32, 64, math.MaxInt} {
		if why := w.Put(0, n); why != api.ErrArg || w.Len() != 0 {
			t.Error(n, why, w.Len())
		}
	}
}

// P5.2: Align and Add at a byte's end, and at every place within one.
func TestWriterAlign(t *testing.T) {
	for n := range 17 {
		var w bits.Writer
		var m modelWriter
		for range n {
			w.Put(1, 1)
			m.put(1, 1)
		}
		for _, b := range [][]byte{nil, {0xa5}, {}, {0, 0xff, 0}} {
			w.Align()
			m.align()
			if w.Len() != len(m.row) {
				t.Errorf("behind %d bits: %d, not %d", n, w.Len(), len(m.row))
			}
			w.Put(1, 1)
			m.put(1, 1)
			w.Add(b)
			m.add(b)
			if got := w.Done(); !bytes.Equal(got, bytesOf(m.row)) || w.Len() != len(m.row) {
				t.Errorf("behind %d bits: %x of %d bits, not %x of %d", n, got, w.Len(), bytesOf(m.row), len(m.row))
			}
		}
	}
}

// P5.2: Done changes nothing, at whatever place, and tells again what it told.
func TestDoneAgain(t *testing.T) {
	random := rand.New(rand.NewSource(52))
	for range 500 {
		var w bits.Writer
		var m modelWriter
		for range 25 {
			switch random.Intn(6) {
			case 0:
				w.Align()
				m.align()
			case 1:
				b := make([]byte, random.Intn(4))
				random.Read(b)
				w.Add(b)
				m.add(b)
			default:
				n := random.Intn(36) - 2
				v := random.Uint32() >> random.Intn(32)
				if why, want := w.Put(v, n), m.put(v, n); why != want {
					t.Fatalf("Put(%#x, %d): %d, not %d", v, n, why, want)
				}
			}
			first := w.Done()
			if again := w.Done(); !bytes.Equal(first, bytesOf(m.row)) || !bytes.Equal(again, first) || w.Len() != len(m.row) {
				t.Fatalf("%x, then %x, of %d bits, not %x of %d", first, again, w.Len(), bytesOf(m.row), len(m.row))
			}
		}
	}
}

// P5.6: any numbers and bytes are read as they were written, in the same order.
func TestBack(t *testing.T) {
	type piece struct {
		v     uint32
		n     int
		b     []byte
		align bool
	}
	random := rand.New(rand.NewSource(56))
	for range 400 {
		var w bits.Writer
		var said []piece
		for range random.Intn(60) {
			p := piece{n: random.Intn(33)}
			p.v = uint32(random.Uint64() & (1<<p.n - 1))
			switch random.Intn(5) {
			case 0:
				p = piece{b: make([]byte, random.Intn(5)), n: -1}
				random.Read(p.b)
				w.Add(p.b)
			case 1:
				p = piece{align: true}
				w.Align()
			default:
				if why := w.Put(p.v, p.n); why != api.OK {
					t.Fatal(p, why)
				}
			}
			said = append(said, p)
		}
		r := bits.NewReader(w.Done())
		if want := (w.Len() + 7) / 8 * 8; r.Left() != want {
			t.Fatal(r.Left(), want)
		}
		for _, p := range said {
			if p.align {
				r.Align()
			} else if p.n < 0 {
				if b, why := r.Bytes(len(p.b)); !bytes.Equal(b, p.b) || why != api.OK {
					t.Fatal(p, b, why)
				}
			} else if v, why := r.Take(p.n); v != p.v || why != api.OK {
				t.Fatal(p, v, why)
			}
		}
		if r.Left() != (8-w.Len()%8)%8 {
			t.Fatal(r.Left(), w.Len())
		}
	}
}

// Memory: what is handed in stays as it is, what is answered is nobody else's, and two objects know nothing of one another.
func TestReaderMemory(t *testing.T) {
	b, unchanged := spare(t, []byte{1, 2, 3, 4, 5, 6}, 9)
	r, other := bits.NewReader(b), bits.NewReader(b)
	r.Take(3)
	for _, n := range []int{2, 0, 2} {
		l, _ := r.Bytes(n)
		spoil(l, 77)
	}
	unchanged()
	if v, why := other.Take(32); v != 0x04030201 || why != api.OK {
		t.Error(v, why)
	}
	if l, why := r.Bytes(1); !slices.Equal(l, []byte{6}) || why != api.OK {
		t.Error(l, why)
	}
}

// Memory: a Writer keeps neither the bytes that it was handed nor those that it answered.
func TestWriterMemory(t *testing.T) {
	var w, other bits.Writer
	given, unchanged := spare(t, []byte{1, 2, 3}, 9)
	w.Add(given)
	unchanged()
	spoil(given, 77)
	first := w.Done()
	spoil(first, 66)
	w.Put(1, 1)
	second := w.Done()
	w.Put(1, 1)
	w.Add([]byte{4})
	if !slices.Equal(second, []byte{1, 2, 3, 1}) || !slices.Equal(w.Done(), []byte{1, 2, 3, 3, 4}) || !slices.Equal(first, []byte{66, 66, 66}) {
		t.Error(first, second, w.Done())
	}
	if other.Len() != 0 || len(other.Done()) != 0 {
		t.Error(other.Len())
	}
}

// Ends: the zero Reader and the zero Code have no promise but that their calls end.
func TestZeroObjects(t *testing.T) {
	var r bits.Reader
	r.Take(1)
	r.Align()
	r.Bytes(1)
	r.Left()
	var c bits.Code
	c.Whole()
	c.Word(0)
	c.Read(&r)
	c.Read(bits.NewReader([]byte{1, 2, 3}))
}
