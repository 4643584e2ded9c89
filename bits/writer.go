package bits

import (
	"slices"

	"satchel/api"
)

// Writer writes bits, of each byte the lowest first; the zero Writer wrote none.
type Writer struct {
	b []byte // the last byte's bits that were not written are zeros
	n int    // how many bits were written
}

// Put writes n bits of a number that has no more, the lowest first.
func (w *Writer) Put(v uint32, n int) api.Errno {
	if n < 0 || n > mostBits || uint64(v)>>n != 0 {
		return api.ErrArg
	}
	for n > 0 {
		used := w.n % 8
		if used == 0 {
			w.b = append(w.b, 0)
		}
		w.b[len(w.b)-1] |= byte(v << used)
		put := min(8-used, n)
		v >>= put
		n -= put
		w.n += put
	}
	return api.OK
}

// Align fills a byte up with zeros.
func (w *Writer) Align() {
	w.n = aligned(w.n)
}

// Add writes whole bytes behind that.
func (w *Writer) Add(b []byte) {
	w.Align()
	w.b = append(w.b, b...)
	w.n += 8 * len(b)
}

// Len is how many bits were written.
func (w *Writer) Len() int {
	return w.n
}

// Done is all that was written as bytes, the last one filled up with zeros; writing may go on behind it.
func (w *Writer) Done() []byte {
	return slices.Clone(w.b)
}
