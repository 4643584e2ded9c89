package writer

import (
	"satchel/api"
	"satchel/header"
	"satchel/pax"
)

// canSay tells whether a form has any way at all to say what an entry says, however short that is.
func canSay(form int, e api.Entry) bool {
	switch form {
	case api.Pax:
		return true
	case api.V7:
		return e.Meta.Nano == 0 && e.User == "" && e.Group == ""
	}
	return e.Meta.Nano == 0
}

// headerOf is what an entry's header would say, if there were room for all.
func headerOf(e api.Entry, form int) api.Header {
	letter := kinds()[e.Kind].letter
	if e.Kind == api.Device {
		letter = e.Type
	}
	return api.Header{
		Form:  form,
		Name:  e.Name,
		Mode:  int64(e.Meta.Mode),
		UID:   int64(e.Meta.Uid),
		GID:   int64(e.Meta.Gid),
		Size:  e.Size,
		Time:  e.Meta.Time,
		Type:  letter,
		Link:  e.Link,
		User:  e.User,
		Group: e.Group,
	}
}

// records is a header's record, and the data behind it.
func records(h api.Header, data []byte) ([]byte, api.Errno) {
	r, why := header.Encode(h)
	if why != api.OK {
		return nil, why
	}
	return filled(append(r[:], data...)), api.OK
}

// filled is b with zeros up to whole records.
func filled(b []byte) []byte {
	return append(b, make([]byte, header.Pad(int64(len(b))))...)
}

// inOne is an entry in a form in which nothing may stand ahead of its header.
func inOne(x api.Packed, form int) ([]byte, api.Errno) {
	h := headerOf(x.Entry, form)
	if form == api.Ustar {
		var why api.Errno
		if h.Prefix, h.Name, why = header.Cut(h.Name); why != api.OK {
			return nil, why
		}
	}
	return records(h, x.Data)
}

// inGNU is an entry in the form GNU.
func inGNU(x api.Packed, least int) ([]byte, api.Errno) {
	h := headerOf(x.Entry, api.GNU)
	ahead := longTexts(&h)
	own, why := oldRecords(h, x.Data, least)
	if why != api.OK {
		return nil, why
	}
	return append(ahead, own...), api.OK
}

// longTexts is what tells of a header's name and link where they are too long; the header is left with as much of them as it has room for.
func longTexts(h *api.Header) []byte {
	var b []byte
	need := func(letter byte, text *string) {
		if len(*text) <= nameRoom {
			return
		}
		b = append(b, telling(api.Header{Form: api.GNU, Name: "././@LongLink", Type: letter}, []byte(*text+zero))...)
		*text = (*text)[:nameRoom]
	}
	need('L', &h.Name)
	need('K', &h.Link)
	return b
}

// telling is the records of a header that tells of another one; there is always room for such a header.
func telling(h api.Header, data []byte) []byte {
	h.Size = int64(len(data))
	b, _ := records(h, data)
	return b
}

// inPax is an entry in the form Pax.
func inPax(x api.Packed, least int) ([]byte, api.Errno) {
	l, holed := rangesOf(x.Data, least)
	h, pairs := shortened(x.Entry, holed)
	data := x.Data
	if holed {
		data = withMap(x.Data, l)
		h.Size = int64(len(data))
	}
	own, why := records(h, data)
	if why != api.OK {
		return nil, why
	}
	if len(pairs) == 0 {
		return own, api.OK
	}
	text, why := pax.Print(pairs)
	if why != api.OK {
		return nil, why
	}
	ahead := telling(api.Header{Form: api.Ustar, Name: "@PaxHeader", Mode: 0o644, Type: 'x'}, text)
	return append(ahead, own...), api.OK
}
