package gzip

import (
	"bytes"
	"slices"
	"strings"

	"satchel/api"
	"satchel/low"
)

const (
	magicFirst  = 0x1f
	magicSecond = 0x8b
	method      = 8

	longest = 65535 // of a text and of Extra
)

// The flags of a head.
const (
	isText = 1 << iota
	hasSum
	hasExtra
	hasName
	hasComment

	unknown = 32 | 64 | 128
)

// Head makes a member's head.
func Head(m api.Member) ([]byte, api.Errno) {
	if strings.Contains(m.Name, "\x00") || strings.Contains(m.Comment, "\x00") {
		return nil, api.ErrArg
	}
	if max(len(m.Name), len(m.Comment), len(m.Extra)) > longest {
		return nil, api.ErrLong
	}
	b := []byte{magicFirst, magicSecond, method, flagsOf(m)}
	b = low.Put(b, uint64(m.Time), 4)
	b = append(b, m.Flags, m.System)
	if len(m.Extra) > 0 {
		b = low.Put(b, uint64(len(m.Extra)), 2)
		b = append(b, m.Extra...)
	}
	b = putText(b, m.Name)
	b = putText(b, m.Comment)
	if m.Sum {
		b = low.Put(b, uint64(Sum(b)), 2)
	}
	return b, api.OK
}

func flagsOf(m api.Member) byte {
	var flags byte
	for _, f := range []struct {
		bit byte
		on  bool
	}{
		{isText, m.Text},
		{hasSum, m.Sum},
		{hasExtra, len(m.Extra) > 0},
		{hasName, m.Name != ""},
		{hasComment, m.Comment != ""},
	} {
		if f.on {
			flags |= f.bit
		}
	}
	return flags
}

// putText puts a text behind b, if there is one.
func putText(b []byte, text string) []byte {
	if text == "" {
		return b
	}
	b = append(b, text...)
	return append(b, 0)
}

// reader reads a head, and gives up by a panic with an api.Errno where b can't begin with one.
type reader struct {
	b  []byte
	at int // the place of the first byte that was not read yet
}

func giveUp(why api.Errno) {
	panic(why)
}

// readHead is what the head says with which b begins, and how many bytes it has.
func readHead(b []byte) (m api.Member, n int, why api.Errno) {
	defer func() {
		switch p := recover().(type) {
		case nil:
		case api.Errno:
			why = p
		default:
			panic(p)
		}
	}()
	r := &reader{b: b}
	m = r.head()
	return m, r.at, api.OK
}

func (r *reader) head() api.Member {
	r.must(be(magicFirst), api.ErrMagic)
	r.must(be(magicSecond), api.ErrMagic)
	r.must(be(method), api.ErrMethod)
	flags := r.must(func(x byte) bool { return x&unknown == 0 }, api.ErrFlags)
	m := api.Member{Text: flags&isText != 0, Sum: flags&hasSum != 0}
	m.Time = uint32(r.number(4))
	m.Flags = r.take(1)[0]
	m.System = r.take(1)[0]
	if flags&hasExtra != 0 {
		m.Extra = slices.Clone(r.take(int(r.number(2))))
	}
	if flags&hasName != 0 {
		m.Name = r.text()
	}
	if flags&hasComment != 0 {
		m.Comment = r.text()
	}
	if m.Sum {
		r.sum()
	}
	return m
}

// must reads a byte that must be so.
func (r *reader) must(so func(byte) bool, why api.Errno) byte {
	x := r.take(1)[0]
	if !so(x) {
		giveUp(why)
	}
	return x
}

// be is of a byte that it must be that one.
func be(one byte) func(byte) bool {
	return func(x byte) bool { return x == one }
}

// take reads the next n bytes.
func (r *reader) take(n int) []byte {
	if n > len(r.b)-r.at {
		giveUp(api.ErrShort)
	}
	r.at += n
	return r.b[r.at-n : r.at]
}

// number reads a number of so many bytes.
func (r *reader) number(size int) uint64 {
	return low.Number(r.take(size))
}

// text reads a text and the 0 behind it.
func (r *reader) text() string {
	left := r.b[r.at:]
	// Of the longest text the 0 stands just behind; what stands further on is not looked at.
	left = left[:min(len(left), longest+1)]
	n := bytes.IndexByte(left, 0)
	if n < 0 && len(left) > longest {
		giveUp(api.ErrLong)
	}
	if n < 0 {
		giveUp(api.ErrShort)
	}
	text := string(r.take(n))
	r.take(1)
	return text
}

// sum reads the sum of the head's bytes ahead. Of its two bytes the first is looked at even where the second one is not there.
func (r *reader) sum() {
	sum := Sum(r.b[:r.at])
	r.must(be(byte(sum)), api.ErrHeadSum)
	r.must(be(byte(sum>>8)), api.ErrHeadSum)
}
