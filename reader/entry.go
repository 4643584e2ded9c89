package reader

import (
	"math"
	"strings"

	"satchel/api"
	"satchel/header"
	"satchel/pax"
)

const modeBits = 0o7777

// entry reads an entry: its header, of which what stood ahead may tell more, and its data.
func (r *Reader) entry(h head, a ahead) api.Item {
	s := says{r.holding(a.locals), h.at}
	x := api.Item{Form: h.Form, Type: h.Type, From: h.at, Head: h.at, Pairs: s.pairs}
	if a.there {
		x.From = a.from
	}
	size := s.number("size", h.Size)
	if hasData(h.Type) {
		x.Held = size
	}
	x.Entry = s.entry(h.Header, a)
	r.at += api.Record
	whole := r.body(&x, h, s, size)
	x.Next = r.at
	if x.Entry.Kind == api.File {
		x.Entry.Size = whole
	}
	return x
}

// holding is the pairs that hold for an entry of these locals. The globals are merged already: where they are many, a copy is far less work than to merge them for each entry.
func (r *Reader) holding(locals []api.Pair) []api.Pair {
	if len(locals) == 0 {
		return r.Globals()
	}
	return pax.Merge(r.globals, locals)
}

// hasData tells of a type whether data stand behind its header: links, directories and devices have none, whatever their size says.
func hasData(letter byte) bool {
	return letter < '1' || letter > '6'
}

// says is the pairs that hold for the entry whose header stands at a place, where it gives up if they can't be.
type says struct {
	pairs []api.Pair
	head  int
}

// text is a key's value, or, if there is none, another text.
func (s says) text(key, other string) string {
	value, there := pax.Find(s.pairs, key)
	return text{value, there}.or(other)
}

// number is a key's value as a number, or, if there is none, another number.
func (s says) number(key string, other int64) int64 {
	value, there := pax.Find(s.pairs, key)
	if !there {
		return other
	}
	n, why := pax.Number(value)
	must(s.head, why)
	return n
}

// owner is the number of a user or a group.
func (s says) owner(key string, other int64) uint32 {
	n := s.number(key, other)
	if n > math.MaxUint32 {
		giveUp(s.head, api.ErrBig)
	}
	return uint32(n)
}

// time is the time that the pairs say, or else the header's.
func (s says) time(other int64) (int64, int32) {
	value, there := pax.Find(s.pairs, "mtime")
	if !there {
		return other, 0
	}
	seconds, nano, why := pax.Time(value)
	must(s.head, why)
	return seconds, nano
}

// entry is what is said of the thing itself, but for its size.
func (s says) entry(h api.Header, a ahead) api.Entry {
	e := api.Entry{
		Name:  s.text("path", a.name.or(header.Name(h))),
		Meta:  s.meta(h),
		User:  s.text("uname", h.User),
		Group: s.text("gname", h.Group),
	}
	e.Kind = kindOf(h, e.Name)
	switch e.Kind {
	case api.Symlink, api.HardLink:
		e.Link = s.text("linkpath", a.link.or(h.Link))
	case api.Device:
		e.Type = h.Type
	}
	return e
}

func (s says) meta(h api.Header) api.Meta {
	m := api.Meta{Mode: uint32(h.Mode & modeBits)}
	m.Uid = s.owner("uid", h.UID)
	m.Gid = s.owner("gid", h.GID)
	m.Time, m.Nano = s.time(h.Time)
	return m
}

// kindOf is what a header tells of; in old archives a directory is a file whose name ends with a slash.
func kindOf(h api.Header, name string) int {
	switch h.Type {
	case '0':
		if strings.HasSuffix(name, "/") {
			return api.Dir
		}
		return api.File
	case '1':
		return api.HardLink
	case '2':
		return api.Symlink
	case '5':
		return api.Dir
	case '7':
		return api.File
	}
	if isOld(h) {
		return api.File
	}
	return api.Device
}
