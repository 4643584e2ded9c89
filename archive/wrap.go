package archive

import (
	"bytes"

	"satchel/api"
	"satchel/frame"
	"satchel/gzip"
)

// Kind is what bytes are wrapped in.
func Kind(b []byte) int {
	switch {
	case frame.Is(b):
		return api.LZ4
	case gzip.Is(b):
		return api.Gzip
	}
	return api.Plain
}

// isWrapping tells whether there is such a wrapping.
func isWrapping(wrap int) bool {
	switch wrap {
	case api.Plain, api.LZ4, api.Gzip:
		return true
	}
	return false
}

// Unwrap is the plain bytes in wrapped ones, at most so many.
func Unwrap(b []byte, most int) ([]byte, api.Errno) {
	switch Kind(b) {
	case api.LZ4:
		plain, _, why := frame.Decode(b, most)
		return plain, why
	case api.Gzip:
		plain, _, why := gzip.Decode(b, most)
		return plain, why
	}
	return asIs(b, most)
}

// asIs is bytes that aren't wrapped, as an answer of their own.
func asIs(b []byte, most int) ([]byte, api.Errno) {
	switch {
	case most < 0 || most > api.MaxBlock:
		return nil, api.ErrArg
	case len(b) > most:
		return nil, api.ErrPlain
	}
	return bytes.Clone(b), api.OK
}

// Wrap wraps bytes, whatever they are.
func Wrap(b []byte, m api.Making) ([]byte, api.Errno) {
	switch m.Wrap {
	case api.Plain:
		return bytes.Clone(b), api.OK
	case api.LZ4:
		return frame.Encode(b, m.Shape)
	case api.Gzip:
		return gzip.Encode(b, api.Member{}, m.Way)
	}
	return nil, api.ErrArg
}
