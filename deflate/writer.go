package deflate

import (
	"slices"

	"satchel/api"
)

// Writer makes a stream of plain bytes that come in pieces.
type Writer struct {
	way    int
	took   int    // how many plain bytes
	held   []byte // those of them that no block has yet, at most as many as a stored one may have
	stream stream // what was not answered yet: less than a byte
	closed bool
}

// NewWriter makes a stream in one way.
func NewWriter(way int) (*Writer, api.Errno) {
	if !isWay(way) {
		return nil, api.ErrArg
	}
	return &Writer{way: way}, api.OK
}

// Write takes a piece, and answers the bytes that come of it.
func (w *Writer) Write(plain []byte) ([]byte, api.Errno) {
	if w.closed {
		return nil, api.ErrArg
	}
	if len(plain) > api.MaxBlock-w.took {
		return nil, api.ErrLong
	}
	w.took += len(plain)
	w.held = append(w.held, plain...)
	if len(w.held) <= mostStored {
		return nil, api.OK
	}
	held := w.held
	for len(held) > mostStored {
		w.stream.write(held[:mostStored], w.way, false)
		held = held[mostStored:]
	}
	w.held = slices.Clone(held)
	return w.stream.take(), api.OK
}

// Flush answers all that is held, up to a whole byte.
func (w *Writer) Flush() ([]byte, api.Errno) {
	if w.closed {
		return nil, api.ErrArg
	}
	if len(w.held) > 0 {
		w.stream.write(w.held, w.way, false)
		w.held = nil
	}
	w.stream.fill()
	return w.stream.take(), api.OK
}

// Close answers the end.
func (w *Writer) Close() ([]byte, api.Errno) {
	if w.closed {
		return nil, api.ErrArg
	}
	w.stream.write(w.held, w.way, true)
	b := w.stream.Done()
	*w = Writer{closed: true}
	return b, api.OK
}
