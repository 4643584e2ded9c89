package inflate

import (
	"slices"

	"satchel/api"
)

// Reader takes a stream in pieces.
type Reader struct {
	stream *stream   // nil, as soon as it is at its end or has failed
	kept   []byte    // what was taken and is not read whole yet; at the end, what stands behind it
	took   int       // how many bytes
	why    api.Errno // ErrShort, while the stream goes on; OK at its end
}

// NewReader is a reader of a stream of at most so many plain bytes.
func NewReader(most int) (*Reader, api.Errno) {
	if !mayBe(most) {
		return nil, api.ErrArg
	}
	return &Reader{stream: &stream{most: most}, why: api.ErrShort}, api.OK
}

// Feed takes a piece, and answers the plain bytes that come of it, also those ahead of an error.
func (r *Reader) Feed(b []byte) ([]byte, api.Errno) {
	if r.why == api.ErrShort {
		r.took += len(b)
		return r.goOn(slices.Concat(r.kept, b))
	}
	if r.Done() {
		r.took += len(b)
		r.kept = append(r.kept, b...)
	}
	return nil, r.why
}

// goOn reads the bytes behind the last ones that were read whole.
func (r *Reader) goOn(b []byte) ([]byte, api.Errno) {
	plain, left, why := r.stream.read(b)
	r.why = why
	r.kept = slices.Clone(b[len(b)-left:])
	switch why {
	case api.ErrShort:
		return plain, api.OK
	case api.OK:
		r.stream = nil
	default:
		// Nothing is read any more, so that nothing has to be kept.
		r.stream, r.kept = nil, nil
	}
	return plain, why
}

// Done tells whether the stream was read to its end.
func (r *Reader) Done() bool {
	return r.why == api.OK
}

// Rest is the bytes that were taken behind the stream's end.
func (r *Reader) Rest() []byte {
	if !r.Done() {
		return nil
	}
	return slices.Clone(r.kept)
}

// Size is how many bytes the stream has; before its end, how many were taken.
func (r *Reader) Size() int {
	if !r.Done() {
		return r.took
	}
	return r.took - len(r.kept)
}
