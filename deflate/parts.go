package deflate

const (
	shortest = 3       // a match's bytes at least
	longest  = 258     // and at most
	reach    = 1 << 15 // how far back a match lies at most

	near   = 1 << 12 // how far back one of the fewest bytes is looked for: farther back it takes more bits than its bytes do
	enough = 64      // the bytes of a match that is taken without a look at the next place

	// A text of up to 1000 bytes that is said over and over is found at one of the 1000 places ahead, whatever it is; up to where it is said anew, the first steps last.
	tries      = 1000    // at how many places a match is looked for at most
	firstSteps = 1 << 20 // how many places are looked at in a whole text
	moreSteps  = 32      // and how many more for each of its bytes: so the time is bounded
)

// part is a plain byte, or a match: some bytes that stood some bytes farther back, too.
type part struct {
	length uint16 // 0: a plain byte
	what   uint16 // the byte, or how far back
}

// size is how many plain bytes a part comes to.
func (p part) size() int {
	return max(int(p.length), 1)
}

// key is three bytes by which a match is found.
type key [shortest]byte

// places is where each three bytes of a text stood.
type places struct {
	text  []byte
	last  map[key]int32 // where each stood last, as far back as a match may lie
	ahead []int32       // of each place the next one ahead with the same three bytes; none: below 0
	steps int           // how many places may still be looked at
}

// note notes all places up to that one.
func (p *places) note(upTo int) {
	for at := len(p.ahead); at <= upTo; at++ {
		k := p.key(at)
		from, ok := p.last[k]
		if !ok {
			from = -1
		}
		p.ahead = append(p.ahead, from)
		p.steps += moreSteps
		p.last[k] = int32(at)
		p.forget(at - reach)
	}
}

// forget gives up what is noted of a place as the last one of its bytes.
func (p *places) forget(at int) {
	if at < 0 {
		return
	}
	if k := p.key(at); p.last[k] == int32(at) {
		delete(p.last, k)
	}
}

func (p *places) key(at int) key {
	return key(p.text[at:])
}

// find is the longest match at a place that has more than so many bytes, of several the nearest one; the zero part, if there is none.
func (p *places) find(at, above int) part {
	most := min(longest, len(p.text)-at)
	above = max(above, shortest-1)
	var best part
	if most <= above {
		return best
	}
	p.note(at)
	from := int(p.ahead[at])
	for range min(tries, p.steps) {
		if from < 0 || at-from > reach {
			break
		}
		p.steps--
		if n := alike(p.text[from:], p.text[at:at+most], above); n > above {
			best, above = part{length: uint16(n), what: uint16(at - from)}, n
			if n == most {
				break
			}
		}
		from = int(p.ahead[from])
	}
	if best.length == shortest && best.what > near {
		return part{}
	}
	return best
}

// alike is with how many bytes of the second text, which is not longer, both begin; or something less, if that is not more than so many.
func alike(from, at []byte, above int) int {
	if from[above] != at[above] {
		return 0
	}
	for n, x := range at {
		if from[n] != x {
			return n
		}
	}
	return len(at)
}

// partsOf is what a text is made of.
func partsOf(text []byte) []part {
	seen := &places{text: text, last: map[key]int32{}, steps: firstSteps}
	var l []part
	now := seen.find(0, 0)
	for at := 0; at < len(text); {
		var next part
		if now.length < enough {
			next = seen.find(at+1, int(now.length))
		}
		// A longer match at the next place is worth more than one here.
		if now.length == 0 || next.length > 0 {
			l = append(l, part{what: uint16(text[at])})
			at, now = at+1, next
			continue
		}
		l = append(l, now)
		at += now.size()
		now = seen.find(at, 0)
	}
	return l
}
