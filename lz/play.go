package lz

import "satchel/api"

// player puts plain bytes together, at most so many, behind those ahead. (That only the last bytes of ahead count needs no look: no match begins farther back.)
type player struct {
	ahead, out []byte
	most       int
}

func (p *player) room(n int) bool {
	return n <= p.most-len(p.out)
}

func (p *player) plain(b []byte) {
	p.out = append(p.out, b...)
}

func (p *player) reaches(back int) bool {
	return back <= len(p.ahead)+len(p.out)
}

// match copies bytes that may only come to be while they are copied.
func (p *player) match(back, length int) {
	if beyond := back - len(p.out); beyond > 0 {
		from := p.ahead[len(p.ahead)-beyond:]
		n := min(length, beyond)
		p.out = append(p.out, from[:n]...)
		length -= n
	}
	// All that stands from here on is the same back bytes over and over, so each round may copy all of it.
	from := max(len(p.out)-back, 0)
	for length > 0 {
		n := min(length, len(p.out)-from)
		p.out = append(p.out, p.out[from:from+n]...)
		length -= n
	}
}

func (p *player) end() {}

// play plays one sequence that can be, or a last one.
func (p *player) play(s api.Seq) api.Errno {
	if !p.room(len(s.Plain)) {
		return api.ErrPlain
	}
	p.plain(s.Plain)
	if s.Back == 0 {
		return api.OK
	}
	if !p.reaches(s.Back) {
		return api.ErrOffset
	}
	if !p.room(s.Length) {
		return api.ErrPlain
	}
	p.match(s.Back, s.Length)
	return api.OK
}
