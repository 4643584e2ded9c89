package sparse

import (
	"strconv"

	"satchel/api"
)

const lineFeed = '\n'

// Put makes the text of a map that stands ahead of the data.
func Put(l []api.Range) ([]byte, api.Errno) {
	if !Valid(l, api.MaxSize) {
		return nil, api.ErrArg
	}
	var b []byte
	line := func(n int64) {
		b = append(strconv.AppendInt(b, n, 10), lineFeed)
	}
	line(int64(len(l)))
	for _, x := range l {
		line(x.From)
		line(x.To - x.From)
	}
	for len(b)%api.Record != 0 {
		b = append(b, 0)
	}
	return b, api.OK
}

// Read reads the text of a map that b begins with, and tells how many bytes it has.
func Read(b []byte) ([]api.Range, int, api.Errno) {
	t := text{b: b}
	l, why := t.ranges()
	if why == api.OK {
		why = t.zeros()
	}
	if why != api.OK {
		return nil, 0, why
	}
	return l, t.at, api.OK
}

// text is a map's text, and how far it is read.
type text struct {
	b  []byte
	at int
}

// ranges reads how many ranges there are, and these.
func (t *text) ranges() ([]api.Range, api.Errno) {
	count, why := t.number()
	if why != api.OK {
		return nil, why
	}
	if count > api.MaxRanges {
		return nil, api.ErrLong
	}
	var l []api.Range
	var end int64
	for range count {
		x, why := told(t.number)
		if why != api.OK {
			return nil, why
		}
		if x.From < end {
			return nil, api.ErrForm
		}
		l = append(l, x)
		end = x.To
	}
	return l, api.OK
}

// number reads a number and its line feed; a byte that can't be is told even if b ends behind it.
func (t *text) number() (int64, api.Errno) {
	var n int64
	for i, x := range t.b[t.at:] {
		if x == lineFeed && i > 0 {
			t.at += i + 1
			return n, api.OK
		}
		digit := int64(x) - '0'
		zeroAhead := i > 0 && n == 0
		if digit < 0 || digit > 9 || zeroAhead || n > (api.MaxSize-digit)/10 {
			return 0, api.ErrForm
		}
		n = n*10 + digit
	}
	return 0, api.ErrShort
}

// zeros reads the zeros that fill the last record up.
func (t *text) zeros() api.Errno {
	for ; t.at%api.Record != 0; t.at++ {
		if t.at == len(t.b) {
			return api.ErrShort
		}
		if t.b[t.at] != 0 {
			return api.ErrForm
		}
	}
	return api.OK
}
