package reader

import (
	"satchel/api"
	"satchel/pax"
	"satchel/sparse"
)

// isOld tells of a header whether its file has holes in GNU's old way.
func isOld(h api.Header) bool {
	return h.Type == 'S' && h.Form == api.GNU
}

// body reads what stands behind an entry's header, the map of a file with holes among it; it answers a file's whole size.
func (r *Reader) body(x *api.Item, h head, s says, size int64) int64 {
	whole := size
	old := isOld(h.Header)
	if old {
		x.Map, whole = r.oldMap(h)
	}
	x.Data = r.at
	data := r.take(x.Held)
	if !old && !s.hasMap(x.Entry.Kind) {
		return whole
	}
	x.Sparse = true
	if !old {
		whole = s.wholeSize()
		x.Map, data = mapAhead(data, x.Data)
		x.Entry.Name = s.text("GNU.sparse.name", x.Entry.Name)
	}
	if !sparse.Valid(x.Map, whole) || bytesOf(x.Map) != int64(len(data)) {
		giveUp(h.at, api.ErrSparse)
	}
	return whole
}

// oldMap is the map and the whole size that a header's record tells; it reads the further records.
func (r *Reader) oldMap(h head) ([]api.Range, int64) {
	l, whole, follows, why := sparse.ReadOld(h.record)
	must(h.at, why)
	for follows {
		var more []api.Range
		more, follows, why = sparse.ReadMore(r.record())
		must(r.at, why)
		l = append(l, more...)
		r.at += api.Record
	}
	return l, whole
}

// hasMap tells of an entry of that kind whether its data begin with a map.
func (s says) hasMap(kind int) bool {
	return kind == api.File && s.text("GNU.sparse.major", "") == "1" && s.text("GNU.sparse.minor", "") == "0"
}

// wholeSize is the size of a file whose data begin with a map; it must be told, so that nothing else stands in for it.
func (s says) wholeSize() int64 {
	n, why := pax.Number(s.text("GNU.sparse.realsize", ""))
	must(s.head, why)
	return n
}

// mapAhead is the map with which data at a place begin, and the data behind it.
func mapAhead(data []byte, place int) ([]api.Range, []byte) {
	l, n, why := sparse.Read(data)
	must(place, why)
	return l, data[n:]
}

// bytesOf is how many bytes a map's ranges have; of one that can be it is at most its size, so that it does not wrap.
func bytesOf(l []api.Range) int64 {
	var n int64
	for _, x := range l {
		n += x.To - x.From
	}
	return n
}
