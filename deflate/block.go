package deflate

// The kinds of blocks.
const (
	kindStored = 0
	kindFixed  = 1
	kindOwn    = 2
)

const (
	mostStored = 1<<16 - 1 // how many plain bytes a stored block has at most
	storedHead = 5         // how many bytes stand ahead of them, if the block begins with a byte
	mostParts  = 1 << 14   // how many parts a block has, where many blocks may be
)

// block is some plain bytes, and the parts that they are made of.
type block struct {
	plain []byte
	parts []part
}

// head writes what each block begins with.
func (s *stream) head(kind uint32, last bool) {
	if last {
		s.Put(1, 1)
	} else {
		s.Put(0, 1)
	}
	s.Put(kind, 2)
}

// stored writes plain bytes as stored blocks, at least one.
func (s *stream) stored(plain []byte, last bool) {
	for len(plain) > mostStored {
		s.storedPiece(plain[:mostStored], false)
		plain = plain[mostStored:]
	}
	s.storedPiece(plain, last)
}

func (s *stream) storedPiece(plain []byte, last bool) {
	s.head(kindStored, last)
	s.Align()
	n := uint32(len(plain))
	s.Put(n, 16)
	s.Put(n^0xffff, 16)
	s.Add(plain)
}

// fixed writes one block with the codes that need not be told.
func (s *stream) fixed(b block, last bool) {
	s.head(kindFixed, last)
	s.parts(b.parts, fixedCodes())
}

// own writes one block with codes of its own.
func (s *stream) own(b block, last bool) {
	symbols, distances := lengthsFor(b.parts)
	s.head(kindOwn, last)
	s.tellLengths(symbols, distances)
	s.parts(b.parts, codes{symbols: codeOf(symbols), distances: codeOf(distances)})
}

// best writes a block as one of whatever kind, or as many, whichever is the shortest.
func (s *stream) best(b block, last bool) {
	ways := kinds(b, last)
	if len(b.parts) > mostParts {
		ways = append(ways, func(t *stream) { t.many(b, last) })
	}
	s.fewest(ways...)
}

// kinds are the ways to write a block as one; as a stored one maybe as some.
func kinds(b block, last bool) []func(t *stream) {
	return []func(t *stream){
		func(t *stream) { t.stored(b.plain, last) },
		func(t *stream) { t.fixed(b, last) },
		func(t *stream) { t.own(b, last) },
	}
}

// many writes a block as some of not too many parts, each of the kind that is the shortest: so codes fit what they are for.
func (s *stream) many(b block, last bool) {
	for len(b.parts) > mostParts {
		first, rest := b.cut(mostParts)
		s.fewest(kinds(first, false)...)
		b = rest
	}
	s.fewest(kinds(b, last)...)
}

// cut cuts a block behind its first n parts.
func (b block) cut(n int) (block, block) {
	size := 0
	for _, p := range b.parts[:n] {
		size += p.size()
	}
	return block{b.plain[:size], b.parts[:n]}, block{b.plain[size:], b.parts[n:]}
}
