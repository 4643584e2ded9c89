package inflate

import (
	"satchel/api"
	"satchel/bits"
)

// reach is the greatest distance of a match.
const reach = 1 << 15

// Where a stream stands.
const (
	atHead = iota
	inStored
	inSymbols
	atEnd
)

// stream is a stream that is read step by step: a block's head, what is there of a stored block's bytes, a symbol with all that belongs to it. A step that can't be done gives up by a panic with an api.Errno, ahead of any change that would hinder the step from being done anew.
type stream struct {
	*bits.Reader     // of the bytes that are read now
	skip         int // how many bits of the next bytes' first one were read before
	left         int // how many bits were left behind the last step

	most   int
	size   int    // how many plain bytes there were
	window []byte // the last ones of them, each at its place modulo reach
	plain  []byte // those that were not told yet

	at     int
	last   bool // whether the block is the last one
	stored int  // how many bytes of a stored block are to come
	codes  codes
}

// read goes on with bytes behind those that were read, and answers the plain bytes that come of them, also with an error, and how many of the bytes were not read whole: with these the next ones must begin. ErrShort: the stream goes on behind them.
func (s *stream) read(b []byte) ([]byte, int, api.Errno) {
	s.Reader = bits.NewReader(b)
	s.Take(s.skip)
	why := s.steps()
	left := (s.left + 7) / 8
	s.skip = 8*left - s.left
	plain := s.plain
	s.Reader, s.plain = nil, nil
	return plain, left, why
}

// steps does all steps up to the stream's end, or up to the first one that gives up.
func (s *stream) steps() (why api.Errno) {
	defer func() {
		switch p := recover().(type) {
		case nil:
		case api.Errno:
			why = p
		default:
			panic(p)
		}
	}()
	for s.left = s.Left(); s.at != atEnd; s.left = s.Left() {
		s.step()
	}
	return api.OK
}

func giveUp(why api.Errno) {
	panic(why)
}

func (s *stream) step() {
	switch s.at {
	case atHead:
		s.head()
	case inStored:
		s.storedBytes()
	case inSymbols:
		s.symbol()
	}
}

// number reads a number of so many bits.
func (s *stream) number(n int) int {
	v, why := s.Take(n)
	if why != api.OK {
		giveUp(api.ErrShort)
	}
	return int(v)
}

// word reads a word of a code; of none, there is no such word.
func (s *stream) word(c *bits.Code) int {
	if c == nil {
		giveUp(api.ErrWord)
	}
	symbol, why := c.Read(s.Reader)
	switch why {
	case api.ErrBits:
		giveUp(api.ErrShort)
	case api.ErrSymbol:
		giveUp(api.ErrWord)
	}
	return symbol
}

// need gives up, unless there may be so many plain bytes more.
func (s *stream) need(n int) {
	if n > s.most-s.size {
		giveUp(api.ErrPlain)
	}
}

// put puts a plain byte behind the others.
func (s *stream) put(x byte) {
	s.plain = append(s.plain, x)
	if s.size < reach {
		s.window = append(s.window, x)
	} else {
		s.window[s.size%reach] = x
	}
	s.size++
}
