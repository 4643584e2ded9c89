package inflate

import "satchel/api"

const (
	endOfBlock    = 256
	lastLength    = 285 // the symbols behind it say nothing
	lastDistance  = 29  // of the distances likewise
	longest       = 258
	leastLength   = 3
	leastDistance = 1
)

// head reads a block's head, with all that stands ahead of its plain bytes.
func (s *stream) head() {
	s.last = s.number(1) == 1
	switch s.number(2) {
	case 0:
		s.storedHead()
	case 1:
		s.fixedCodes()
	case 2:
		s.ownCodes()
	default:
		giveUp(api.ErrKindOf)
	}
}

// storedHead reads how many bytes a stored block has.
func (s *stream) storedHead() {
	s.Align()
	n := s.number(16)
	if s.number(16) != n^0xffff {
		giveUp(api.ErrStored)
	}
	s.need(n)
	s.stored, s.at = n, inStored
	if n == 0 {
		s.endBlock()
	}
}

// storedBytes reads what is there of a stored block's bytes.
func (s *stream) storedBytes() {
	n := min(s.stored, s.Left()/8)
	if n == 0 {
		giveUp(api.ErrShort)
	}
	b, _ := s.Bytes(n)
	for _, x := range b {
		s.put(x)
	}
	s.stored -= n
	if s.stored == 0 {
		s.endBlock()
	}
}

// endBlock goes on to the next block; behind the last one, to the byte's end, which belongs to the stream.
func (s *stream) endBlock() {
	s.at = atHead
	if s.last {
		s.Align()
		s.at = atEnd
	}
}

// symbol reads a symbol and what belongs to it.
func (s *stream) symbol() {
	symbol := s.word(s.codes.symbols)
	switch {
	case symbol < endOfBlock:
		s.need(1)
		s.put(byte(symbol))
	case symbol == endOfBlock:
		s.endBlock()
	case symbol <= lastLength:
		s.match(s.length(symbol))
	default:
		giveUp(api.ErrWord)
	}
}

// length reads the further bits of a length's symbol.
func (s *stream) length(symbol int) int {
	if symbol == lastLength {
		return longest
	}
	return leastLength + s.further(symbol-endOfBlock-1, 4)
}

// distance reads a distance's symbol and its further bits.
func (s *stream) distance() int {
	symbol := s.word(s.codes.distances)
	if symbol > lastDistance {
		giveUp(api.ErrWord)
	}
	return leastDistance + s.further(symbol, 2)
}

// further reads the further bits of a symbol, and answers how far its number lies above the least one. Symbols go in groups: of the first two none has further bits, and each group behind has one more than the group ahead.
func (s *stream) further(symbol, group int) int {
	if symbol < group {
		return symbol
	}
	n := symbol/group - 1
	return (group+symbol%group)<<n + s.number(n)
}

// match reads a distance, and copies so many bytes from there; some of them may be copies themselves.
func (s *stream) match(length int) {
	distance := s.distance()
	if distance > s.size {
		giveUp(api.ErrDistance)
	}
	s.need(length)
	for range length {
		s.put(s.window[(s.size-distance)%reach])
	}
}
