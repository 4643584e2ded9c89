package deflate

import (
	"satchel/api"
	"satchel/bits"
)

// stream is the bits of blocks, one behind the other.
type stream struct {
	bits.Writer
}

// write writes plain bytes as blocks, in one way.
func (s *stream) write(plain []byte, way int, last bool) {
	if way == Stored {
		s.stored(plain, last)
		return
	}
	b := block{plain: plain, parts: partsOf(plain)}
	switch way {
	case Fixed:
		s.fixed(b, last)
	case Dynamic:
		s.own(b, last)
	default:
		s.best(b, last)
	}
}

// fewest goes on in that one of some ways that writes the fewest bits; of several, in the first of them.
func (s *stream) fewest(ways ...func(t *stream)) {
	// A stored block is filled up to a byte's end, so that each way must be tried from the same place within a byte.
	begun := s.Len() % 8
	var best *stream
	for _, way := range ways {
		t := &stream{}
		t.Put(0, begun)
		way(t)
		if best == nil || t.Len() < best.Len() {
			best = t
		}
	}
	s.join(best, begun)
}

// join writes what another stream has behind its first bits, so many as are begun here of a byte; no block is so short that it ends within that byte.
func (s *stream) join(t *stream, begun int) {
	b, over := t.split()
	s.Put(uint32(b[0])>>begun, 8-begun)
	s.Add(b[1:])
	s.Put(over.Bits, over.N)
}

// fill goes on to a byte's beginning, by a block without bytes, if none begins here.
func (s *stream) fill() {
	if s.Len()%8 > 0 {
		s.storedPiece(nil, false)
	}
}

// take is all whole bytes that are written; the bits behind them stay.
func (s *stream) take() []byte {
	b, over := s.split()
	*s = stream{}
	s.Put(over.Bits, over.N)
	return b
}

// split is all whole bytes that are written, and the bits behind them.
func (s *stream) split() ([]byte, api.Word) {
	b, whole, n := s.Done(), s.Len()/8, s.Len()%8
	var over api.Word
	if n > 0 {
		over = api.Word{Bits: uint32(b[whole]), N: n}
	}
	return b[:whole], over
}
