package writer

import (
	"slices"

	"satchel/api"
	"satchel/field"
	"satchel/header"
	"satchel/sparse"
)

// rangesOf is where a file's bytes lie, if it is one with holes; without any bytes, or with too many ranges, it is written like any other.
func rangesOf(data []byte, least int) ([]api.Range, bool) {
	if least == 0 || len(data) == 0 {
		return nil, false
	}
	l := sparse.Find(data, least)
	whole := []api.Range{{From: 0, To: int64(len(data))}}
	if len(l) > api.MaxRanges || slices.Equal(l, whole) {
		return nil, false
	}
	return l, true
}

// joined is the bytes that lie at a map's ranges; the map is the data's own.
func joined(data []byte, l []api.Range) []byte {
	held, _ := sparse.Join(data, l)
	return held
}

// withMap is what a file with holes holds, behind its map.
func withMap(data []byte, l []api.Range) []byte {
	text, _ := sparse.Put(l) // a map of a file's bytes always can be
	return append(text, joined(data, l)...)
}

// oldRecords is a header's record and the data behind it; of a file with holes in GNU's old way: its map stands in its record and in further ones, ahead of the data.
func oldRecords(h api.Header, data []byte, least int) ([]byte, api.Errno) {
	l, holed := rangesOf(data, least)
	if !holed {
		return records(h, data)
	}
	held := joined(data, l)
	h.Type, h.Size = 'S', int64(len(held))
	r, why := header.Encode(h)
	if why != api.OK {
		return nil, why
	}
	r, further, why := sparse.PutOld(r, l, int64(len(data)))
	if why != api.OK {
		return nil, why
	}
	r = field.PutSum(r)
	b := r[:]
	for _, more := range further {
		b = append(b, more[:]...)
	}
	return filled(append(b, held...)), api.OK
}
