package reader

import (
	"satchel/api"
	"satchel/field"
	"satchel/header"
	"satchel/pax"
)

// The types of headers that tell of others.
const (
	tellsAll  = 'g'
	tellsNext = 'x'
	tellsName = 'L'
	tellsLink = 'K'
)

// head is a header, the record that says it, and where that stands.
type head struct {
	api.Header
	record [api.Record]byte
	at     int
}

// decoded is the header of a record that stands at a place.
func decoded(record [api.Record]byte, at int) head {
	h, place, why := header.Decode(record)
	must(at+place, why)
	return head{h, record, at}
}

func (h head) tellsOfOthers() bool {
	switch h.Type {
	case tellsAll, tellsNext, tellsName, tellsLink:
		return true
	}
	return false
}

// ahead is what headers told of the next entry since the last one: whether there were any, where the first one stands, and what they said.
type ahead struct {
	there      bool
	from       int
	locals     []api.Pair
	name, link text
}

// text is a text, if it is there: an empty one may be.
type text struct {
	said  string
	there bool
}

func (t text) or(other string) string {
	if t.there {
		return t.said
	}
	return other
}

// pass reads what a header tells of others.
func (r *Reader) pass(h head, a *ahead) {
	if h.Size > api.MaxMeta {
		giveUp(h.at, api.ErrLong)
	}
	r.at += api.Record
	place := r.at
	data := r.take(h.Size)
	switch h.Type {
	case tellsAll:
		r.globals = few(pax.Merge(r.globals, parsed(data, place)), h)
		return
	case tellsNext:
		a.locals = few(append(a.locals, parsed(data, place)...), h)
	case tellsName:
		a.name = text{field.Text(data), true}
	case tellsLink:
		a.link = text{field.Text(data), true}
	}
	if !a.there {
		a.there, a.from = true, h.at
	}
}

// parsed is the pairs of data that stand at a place.
func parsed(data []byte, place int) []api.Pair {
	l, at, why := pax.Parse(data)
	must(place+at, why)
	return l
}

// few is the pairs, if a header may tell so many.
func few(l []api.Pair, h head) []api.Pair {
	if len(l) > api.MaxPairs {
		giveUp(h.at, api.ErrLong)
	}
	return l
}
