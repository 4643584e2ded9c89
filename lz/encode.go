package lz

import (
	"slices"

	"satchel/api"
)

const (
	lastPlain = 5  // how many plain bytes stand behind the last match at least
	lastBegin = 12 // how far ahead of the end the last match begins at least
)

// key is four bytes by which a match is found.
type key [shortest]byte

// places is where each four bytes of a text stood last, as far back as a match may begin, and maybe farther.
type places struct {
	text      []byte
	near, far map[key]int // near has the latest places, far those ahead of them
	next      int         // the first place that was not noted yet
}

// note notes all places up to that one.
func (p *places) note(upTo int) {
	for ; p.next <= upTo; p.next++ {
		if p.next%api.Window == 0 {
			// All of far lies out of reach by now.
			p.near, p.far = p.far, p.near
			clear(p.near)
		}
		p.near[p.key(p.next)] = p.next
	}
}

func (p *places) key(at int) key {
	return key(p.text[at:])
}

// find is where the four bytes at a place stood last ahead of it.
func (p *places) find(at int) (int, bool) {
	p.note(at - 1)
	k := p.key(at)
	from, ok := p.near[k]
	if !ok {
		from, ok = p.far[k]
	}
	return from, ok && at-from <= farthest
}

// encode makes the block of plain; every byte of ahead can be reached from plain's first one.
func encode(plain, ahead []byte) []byte {
	text := slices.Concat(ahead, plain)
	seen := &places{text: text, near: map[key]int{}, far: map[key]int{}}
	var b []byte
	begin := len(ahead)
	for at := begin; at <= len(text)-lastBegin; {
		from, ok := seen.find(at)
		if !ok {
			at++
			continue
		}
		back := at - from
		at -= alikeAhead(text, from, at, begin)
		n := alike(text[:len(text)-lastPlain], at-back, at)
		b = put(b, api.Seq{Plain: text[begin:at], Back: back, Length: n})
		at += n
		begin = at
	}
	return put(b, api.Seq{Plain: text[begin:]})
}

// alike is how many bytes from two places on are the same, up to the end.
func alike(text []byte, from, at int) int {
	n := 0
	for at+n < len(text) && text[from+n] == text[at+n] {
		n++
	}
	return n
}

// alikeAhead is how many bytes ahead of two places are the same, with none of the second ones ahead of begin.
func alikeAhead(text []byte, from, at, begin int) int {
	n := 0
	for from-n > 0 && at-n > begin && text[from-n-1] == text[at-n-1] {
		n++
	}
	return n
}
