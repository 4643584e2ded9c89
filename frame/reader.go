package frame

import (
	"satchel/api"
	"satchel/low"
	"satchel/lz"
	"satchel/xxh"
)

// reader reads frames one behind the other, and gives up by a panic where b can't be such.
type reader struct {
	b     []byte
	at    int // the place of the first byte that was not read yet
	most  int
	plain []byte // of all frames so far, never more than most
}

// fault is what a reader gives up with.
type fault struct {
	at  int
	why api.Errno
}

func giveUp(at int, why api.Errno) {
	panic(fault{at, why})
}

// read is the plain bytes of the frames that b is, at most so many; tell is told of each frame as soon as it was read. With an error it answers the place, and tell may have been told of frames ahead of it.
func read(b []byte, most int, tell func(api.Frame)) (plain []byte, at int, why api.Errno) {
	if most < 0 || most > api.MaxBlock {
		return nil, 0, api.ErrArg
	}
	defer func() {
		switch p := recover().(type) {
		case nil:
		case fault:
			plain, at, why = nil, p.at, p.why
		default:
			panic(p)
		}
	}()
	r := &reader{b: b, most: most}
	for r.at < len(b) {
		tell(r.next())
	}
	return r.plain, r.at, api.OK
}

// take reads the next n bytes.
func (r *reader) take(n int) []byte {
	if n > len(r.b)-r.at {
		giveUp(len(r.b), api.ErrShort)
	}
	r.at += n
	return r.b[r.at-n : r.at]
}

// number reads a number of so many bytes.
func (r *reader) number(size int) uint64 {
	return low.Number(r.take(size))
}

// check reads the sum of some bytes; that must be theirs.
func (r *reader) check(of []byte, why api.Errno) {
	at := r.at
	if r.number(4) != uint64(xxh.Sum32(0, of)) {
		giveUp(at, why)
	}
}

// next reads a frame of either kind.
func (r *reader) next() api.Frame {
	f := api.Frame{From: r.at}
	magic := r.number(4)
	switch {
	case magic == magicFrame:
		r.frame(&f)
	case isSkipped(magic):
		f.Skipped, f.User = true, int(magic&users)
		r.take(int(r.number(4)))
	default:
		giveUp(f.From, api.ErrMagic)
	}
	f.To = r.at
	return f
}

// frame reads what stands behind a frame's magic.
func (r *reader) frame(f *api.Frame) {
	size := r.head(&f.Shape)
	begin := len(r.plain)
	for r.block(f, begin) {
	}
	f.Size = len(r.plain) - begin
	if f.Shape.ContentSize && uint64(f.Size) != size {
		giveUp(r.at-4, api.ErrContent)
	}
	if f.Shape.ContentSum {
		r.check(r.plain[begin:], api.ErrContentSum)
	}
}

// head reads a head, and answers how many plain bytes it says there are, if it says so.
func (r *reader) head(s *api.Shape) uint64 {
	from := r.at
	r.flags(s)
	r.descriptor(s)
	var size uint64
	if s.ContentSize {
		size = r.number(8)
	}
	at := r.at
	if r.take(1)[0] != headSum(r.b[from:at]) {
		giveUp(at, api.ErrHead)
	}
	return size
}

// flags reads FLG.
func (r *reader) flags(s *api.Shape) {
	at := r.at
	first := r.take(1)[0]
	for _, must := range []struct {
		bits, be byte
		why      api.Errno
	}{
		{128 | 64, version, api.ErrVersion},
		{2, 0, api.ErrReserved},
		{1, 0, api.ErrDict},
	} {
		if first&must.bits != must.be {
			giveUp(at, must.why)
		}
	}
	for _, f := range flagsOf(s) {
		*f.on = first&f.bit != 0
	}
}

// descriptor reads BD.
func (r *reader) descriptor(s *api.Shape) {
	at := r.at
	second := r.take(1)[0]
	if second&(128|8|4|2|1) != 0 || second>>4 < leastBlock {
		giveUp(at, api.ErrReserved)
	}
	s.Block = int(second >> 4)
}

// block reads a block of a frame whose plain bytes begin at a place of all; false at the frame's end, whose zeros it has read then.
func (r *reader) block(f *api.Frame, begin int) bool {
	at := r.at
	size := r.number(4)
	if size == 0 {
		return false
	}
	n := int(size &^ plainSize)
	// In the order of the bytes: a size that can't be is told of even where its bytes are not all there.
	if n > longest(f.Shape.Block) {
		giveUp(at, api.ErrBlock)
	}
	from := r.at
	b := r.take(n)
	if f.Shape.BlockSums {
		r.check(b, api.ErrBlockSum)
	}
	f.Blocks++
	if size&plainSize != 0 {
		f.Plain++
		r.takePlain(b, from)
	} else {
		r.unpack(b, from, f.Shape, begin)
	}
	return true
}

// takePlain takes the bytes of a plain block, which stand at a place.
func (r *reader) takePlain(b []byte, from int) {
	if len(b) > r.most-len(r.plain) {
		giveUp(from, api.ErrPlain)
	}
	r.plain = append(r.plain, b...)
}

// unpack takes the plain bytes of a block of lz, whose bytes stand at a place.
func (r *reader) unpack(b []byte, from int, s api.Shape, begin int) {
	ahead := r.plain[begin:]
	if s.Alone {
		ahead = nil
	}
	plain, at, why := lz.Decode(b, ahead, min(longest(s.Block), r.most-len(r.plain)))
	if why != api.OK {
		giveUp(from+at, why)
	}
	r.plain = append(r.plain, plain...)
}
