package reader

import (
	"bytes"

	"satchel/api"
	"satchel/sparse"
)

// Content is the bytes of a file's entry.
func Content(b []byte, x api.Item) ([]byte, api.Errno) {
	if x.Entry.Kind != api.File || x.Entry.Size < 0 || x.Held < 0 {
		return nil, api.ErrArg
	}
	if x.Entry.Size > api.MaxBlock {
		return nil, api.ErrLong
	}
	if x.Data < 0 || x.Data > len(b) || x.Held > int64(len(b)-x.Data) {
		return nil, api.ErrShort
	}
	data := b[x.Data : x.Data+int(x.Held)]
	if x.Sparse {
		return spread(data, x)
	}
	if x.Entry.Size != x.Held {
		return nil, api.ErrArg
	}
	return bytes.Clone(data), api.OK
}

// spread is the bytes of a file with holes, whose pieces are the last of its data.
func spread(data []byte, x api.Item) ([]byte, api.Errno) {
	if !sparse.Valid(x.Map, x.Entry.Size) {
		return nil, api.ErrArg
	}
	ahead := int64(len(data)) - bytesOf(x.Map)
	if ahead < 0 {
		return nil, api.ErrArg
	}
	return sparse.Spread(data[ahead:], x.Map, x.Entry.Size)
}
