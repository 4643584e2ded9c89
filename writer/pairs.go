package writer

import (
	"satchel/api"
	"satchel/header"
	"satchel/pax"
)

// What a header of Ustar has room for.
const (
	nameRoom  = 100 // bytes of a name or a link
	ownerRoom = 32  // bytes of a user's or a group's name
	maxOwner  = 0o7777777
	maxTime   = 0o77777777777
)

// shortened is an entry's header with as much as it has room for, and the pairs that tell the rest, by their keys.
func shortened(e api.Entry, holed bool) (api.Header, []api.Pair) {
	h := headerOf(e, api.Ustar)
	if prefix, name, why := header.Cut(e.Name); why == api.OK {
		h.Prefix, h.Name = prefix, name
	}
	var l []api.Pair
	need := func(key, value string) {
		l = append(l, api.Pair{Key: key, Value: value})
	}
	owner := func(key string, n *int64) {
		if *n > maxOwner {
			need(key, decimal(*n))
			*n = 0
		}
	}
	text := func(key string, s *string, room int) {
		if len(*s) > room {
			need(key, *s)
			*s = (*s)[:room]
		}
	}
	if holed {
		need("GNU.sparse.major", "1")
		need("GNU.sparse.minor", "0")
		need("GNU.sparse.name", e.Name)
		need("GNU.sparse.realsize", decimal(e.Size))
	}
	owner("gid", &h.GID)
	text("gname", &h.Group, ownerRoom)
	text("linkpath", &h.Link, nameRoom)
	if m := e.Meta; m.Nano != 0 || m.Time < 0 || m.Time > maxTime {
		time, _ := pax.PutTime(m.Time, m.Nano) // Check saw to the nanoseconds
		need("mtime", time)
		h.Time = 0
	}
	text("path", &h.Name, nameRoom) // a name that could be cut fits by now
	owner("uid", &h.UID)
	text("uname", &h.User, ownerRoom)
	return h, l
}

// decimal is the digits of a number that is not below 0.
func decimal(n int64) string {
	digits, _ := pax.PutNumber(n)
	return digits
}
