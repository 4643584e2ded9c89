package header

import (
	"satchel/api"
	"satchel/field"
)

const (
	nameWide   = 100
	sumAt      = 148
	typeAt     = 156
	magicAt    = 257
	prefixAt   = 345
	prefixWide = 155
	end        = prefixAt + prefixWide
)

// span is where a field lies in a record.
type span struct{ from, width int }

// of are the field's bytes of a record.
func (s span) of(r *[api.Record]byte) []byte {
	return r[s.from : s.from+s.width]
}

func magic() span {
	return span{magicAt, 8}
}

// text is a field of a text, and where a header says it.
type text struct {
	span
	says func(*api.Header) *string
}

// put writes the text into its field, and tells whether it fits.
func (x text) put(r *[api.Record]byte, s string) bool {
	b, why := field.PutText(s, x.width)
	copy(x.of(r), b)
	return why == api.OK
}

func texts() []text {
	return []text{
		{span{0, nameWide}, func(h *api.Header) *string { return &h.Name }},
		{span{157, 100}, func(h *api.Header) *string { return &h.Link }},
		{span{265, 32}, func(h *api.Header) *string { return &h.User }},
		{span{297, 32}, func(h *api.Header) *string { return &h.Group }},
		{span{prefixAt, prefixWide}, func(h *api.Header) *string { return &h.Prefix }},
	}
}

// number is a field of a number, where a header says it, and whether it may be below 0.
type number struct {
	span
	says  func(*api.Header) *int64
	below bool
}

// read is the number that the field of a record has.
func (x number) read(r *[api.Record]byte) (int64, api.Errno) {
	n, why := field.Number(x.of(r))
	if why == api.OK && !x.may(n) {
		return 0, api.ErrBig
	}
	return n, why
}

// put writes the number into its field in the way that the form has, and tells whether it fits.
func (x number) put(r *[api.Record]byte, n int64, way func(int64, int) ([]byte, api.Errno)) bool {
	b, why := way(n, x.width)
	copy(x.of(r), b)
	return why == api.OK && x.may(n)
}

func (x number) may(n int64) bool {
	return n >= 0 || x.below
}

// numbers are in the order in which their errors are told.
func numbers() []number {
	return []number{
		{span{100, 8}, func(h *api.Header) *int64 { return &h.Mode }, false},
		{span{108, 8}, func(h *api.Header) *int64 { return &h.UID }, false},
		{span{116, 8}, func(h *api.Header) *int64 { return &h.GID }, false},
		{span{124, 12}, func(h *api.Header) *int64 { return &h.Size }, false},
		{span{136, 12}, func(h *api.Header) *int64 { return &h.Time }, true},
		{span{329, 8}, func(h *api.Header) *int64 { return &h.Major }, false},
		{span{337, 8}, func(h *api.Header) *int64 { return &h.Minor }, false},
	}
}
