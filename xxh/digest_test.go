package xxh_test

import (
	"bytes"
	"math/rand"
	"testing"

	"satchel/xxh"
)

// holds tells whether d is a digest of the seed that took b.
func holds(t *testing.T, w width, d digest, seed uint64, b []byte) {
	t.Helper()
	if got, want := d.sum(), w.model(seed, b); got != want {
		t.Fatalf("Digest%s, seed %d, of %d bytes: Sum %x, want %x", w.name, seed, len(b), got, want)
	}
	if d.length() != uint64(len(b)) {
		t.Fatalf("Digest%s of %d bytes: Len %d", w.name, len(b), d.length())
	}
}

// P2.2: the chapter's second example.
func TestDigestOfTheExample(t *testing.T) {
	d := xxh.New32(7)
	d.Write([]byte("ab"))
	d.Write([]byte("c"))
	for range 2 {
		if d.Sum() != xxh.Sum32(7, []byte("abc")) {
			t.Error("Sum")
		}
	}
	if d.Len() != 3 {
		t.Error("Len", d.Len())
	}
	d.Reset()
	if d.Sum() != xxh.Sum32(7, nil) || d.Len() != 0 {
		t.Error("Reset")
	}
}

// P2.2: a digest that took no bytes, also none of many times.
func TestNewDigestTookNothing(t *testing.T) {
	for _, w := range widths() {
		for _, seed := range w.seeds {
			d := w.fresh(seed)
			holds(t, w, d, seed, nil)
			d.write(nil)
			d.write([]byte{})
			holds(t, w, d, seed, nil)
		}
	}
}

// P2.2, P2.3: pieces of every size, and Sum asked behind each of them.
func TestPiecesOfEverySize(t *testing.T) {
	long := text(150)
	for _, w := range widths() {
		for size := 1; size <= len(long); size++ {
			d, asked := w.fresh(11), w.fresh(11)
			for at := 0; at < len(long); at += size {
				end := min(at+size, len(long))
				d.write(long[at:end])
				asked.write(long[at:end])
				holds(t, w, asked, 11, long[:end])
			}
			holds(t, w, d, 11, long)
		}
	}
}

// P2.3: every text of every length around the stripes, cut at every two places.
func TestThreePieces(t *testing.T) {
	for _, w := range widths() {
		for n := range 3*w.stripe + 2 {
			b := text(n)
			for i := 0; i <= n; i++ {
				for j := i; j <= n; j++ {
					d := w.fresh(1)
					d.write(b[:i])
					d.write(b[i:j])
					d.write(b[j:])
					holds(t, w, d, 1, b)
				}
			}
		}
	}
}

// P2.2: a clone and its origin are written on apart, whatever they held.
func TestCloneAndOriginGoApart(t *testing.T) {
	for _, w := range widths() {
		for n := range 3 * w.stripe {
			for _, more := range []int{1, 3, w.stripe - 1, w.stripe, w.stripe + 1} {
				b := text(n)
				d := w.fresh(5)
				d.write(b)
				c := d.clone()
				holds(t, w, c, 5, b)

				one := append(bytes.Clone(b), text(more)...)
				two := append(bytes.Clone(b), bytes.Repeat([]byte{'x'}, more+2)...)
				d.write(one[n:])
				holds(t, w, c, 5, b)
				c.write(two[n:])
				holds(t, w, d, 5, one)
				holds(t, w, c, 5, two)

				d.reset()
				holds(t, w, c, 5, two)
				c.reset()
				c.write(b)
				holds(t, w, c, 5, b)
				holds(t, w, d, 5, nil)
			}
		}
	}
}

// P2.2: behind Reset a digest is as a new one of its seed, whatever it held.
func TestResetKeepsTheSeed(t *testing.T) {
	for _, w := range widths() {
		for _, seed := range w.seeds {
			d := w.fresh(seed)
			for n := range 3 * w.stripe {
				d.write(text(n))
				holds(t, w, d, seed, text(n))
				d.reset()
				holds(t, w, d, seed, nil)
			}
		}
	}
}

// P2.2: many calls in no order, on digests that come of one another, against the bytes that each took.
func TestManyCalls(t *testing.T) {
	chance := rand.New(rand.NewSource(1))
	for _, w := range widths() {
		ds := []digest{w.fresh(77)}
		took := [][]byte{nil}
		for range 20000 {
			i := chance.Intn(len(ds))
			switch what := chance.Intn(20); {
			case what == 0:
				ds[i].reset()
				took[i] = nil
			case what == 1 && len(ds) < 8:
				ds = append(ds, ds[i].clone())
				took = append(took, bytes.Clone(took[i]))
			case what == 2 && len(ds) > 1:
				ds[i], ds = ds[len(ds)-1], ds[:len(ds)-1]
				took[i], took = took[len(took)-1], took[:len(took)-1]
			case what < 12:
				b := text(chance.Intn(2*w.stripe + 3))
				ds[i].write(b)
				took[i] = append(took[i], b...)
			default:
				holds(t, w, ds[i], 77, took[i])
			}
		}
	}
}

// DOC.md, Memory: what was written is neither changed nor kept, its spare room included.
func TestWriteKeepsNothing(t *testing.T) {
	for _, w := range widths() {
		for n := range 3 * w.stripe {
			d := w.fresh(4)
			room := text(n + 40)
			was := bytes.Clone(room)
			d.write(room[:n])
			if !bytes.Equal(room, was) {
				t.Fatalf("Digest%s: Write of %d bytes changed them", w.name, n)
			}
			clear(room)
			holds(t, w, d, 4, was[:n])
			d.write(was[n:])
			holds(t, w, d, 4, was)
		}
	}
}
