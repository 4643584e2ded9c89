package lz

import (
	"bytes"

	"satchel/api"
)

// taker is told of a block's sequences, part by part, while they are read; it is asked ahead of each part whether it takes it.
type taker interface {
	room(n int) bool       // whether n more plain bytes may be
	plain(p []byte)        // they are these, and lie in the block
	reaches(back int) bool // whether a match may begin so far back
	match(back, length int)
	end()
}

// reads are the ways in which a block's bytes are read; all of them go on from one place.
type reads struct {
	end   int // where a block that is cut off breaks off
	place func() int
	bytes func(n int) ([]byte, bool)
	// number is a number whose four bits in the token are these.
	number func(low byte) (int, bool)
}

// readsOf are the ways to read b from its beginning on.
func readsOf(b []byte) reads {
	at := 0
	take := func(n int) ([]byte, bool) {
		if n > len(b)-at {
			return nil, false
		}
		at += n
		return b[at-n : at], true
	}
	number := func(low byte) (int, bool) {
		n := int(low)
		for more := low == nibble; more; {
			one, ok := take(1)
			if !ok {
				return 0, false
			}
			n += int(one[0])
			more = one[0] == full
		}
		return n, true
	}
	return reads{end: len(b), place: func() int { return at }, bytes: take, number: number}
}

// scan tells t of b's sequences, up to the first place at which b is no block, or t does not take what comes: then it answers that place.
func scan(b []byte, t taker) (int, api.Errno) {
	r := readsOf(b)
	for {
		from := r.place()
		token, ok := r.bytes(1)
		if !ok {
			return r.end, api.ErrShort
		}
		if at, why := scanPlain(r, t, token[0]>>4); why != api.OK {
			return at, why
		}
		low := token[0] & nibble
		if r.place() == r.end {
			if low != 0 {
				return from, api.ErrEnd
			}
			t.end()
			return 0, api.OK
		}
		if at, why := scanMatch(r, t, low); why != api.OK {
			return at, why
		}
	}
}

// scanPlain tells t of a sequence's plain bytes.
func scanPlain(r reads, t taker, low byte) (int, api.Errno) {
	n, ok := r.number(low)
	if !ok {
		return r.end, api.ErrShort
	}
	// Whether there is room is asked ahead of whether the bytes are there.
	if !t.room(n) {
		return r.place(), api.ErrPlain
	}
	p, ok := r.bytes(n)
	if !ok {
		return r.end, api.ErrShort
	}
	t.plain(p)
	return 0, api.OK
}

// scanMatch tells t of a sequence's match.
func scanMatch(r reads, t taker, low byte) (int, api.Errno) {
	at := r.place()
	two, ok := r.bytes(2)
	if !ok {
		return r.end, api.ErrShort
	}
	back := int(two[0]) | int(two[1])<<8
	if back == 0 || !t.reaches(back) {
		return at, api.ErrOffset
	}
	n, ok := r.number(low)
	if !ok {
		return r.end, api.ErrShort
	}
	if !t.room(n + shortest) {
		return at, api.ErrPlain
	}
	t.match(back, n+shortest)
	return 0, api.OK
}

// lister takes whatever comes and lists it.
type lister struct {
	list []api.Seq
	now  api.Seq
}

func (l *lister) room(int) bool    { return true }
func (l *lister) reaches(int) bool { return true }

func (l *lister) plain(p []byte) {
	l.now = api.Seq{Plain: bytes.Clone(p)}
}

func (l *lister) match(back, length int) {
	l.now.Back, l.now.Length = back, length
	l.end()
}

func (l *lister) end() {
	l.list = append(l.list, l.now)
}
