package writer

import (
	"math"
	"strings"

	"satchel/api"
	"satchel/path"
)

const (
	modeBits = 0o7777
	second   = 1000000000 // nanoseconds
	zero     = "\x00"
	devices  = "346" // the types that a Device can have
)

// kind is what belongs to entries of a kind: their headers' type (a Device has its own), whether they have a link, whether they have bytes.
type kind struct {
	letter            byte
	hasLink, hasBytes bool
}

func kinds() map[int]kind {
	return map[int]kind{
		api.File:     {letter: '0', hasBytes: true},
		api.HardLink: {letter: '1', hasLink: true},
		api.Symlink:  {letter: '2', hasLink: true},
		api.Dir:      {letter: '5'},
		api.Device:   {},
	}
}

// Check tells whether an entry can be written.
func Check(x api.Packed) api.Errno {
	e := x.Entry
	name, why := path.Clean(e.Name)
	if why != api.OK {
		return why
	}
	k, known := kinds()[e.Kind]
	switch {
	case name != e.Name:
		return api.ErrArg
	case !known || e.Kind == api.Device && strings.IndexByte(devices, e.Type) < 0:
		return api.ErrOdd
	case !metaCanBe(e.Meta):
		return api.ErrArg
	case someText(e, tooLong) || len(x.Data) > api.MaxBlock:
		return api.ErrLong
	case someText(e, hasZero):
		return api.ErrArg
	case k.hasLink != (e.Link != "") || e.Kind != api.Device && e.Type != 0:
		return api.ErrArg
	case e.Size != int64(len(x.Data)) || e.Size > 0 && !k.hasBytes:
		return api.ErrBytes
	}
	return api.OK
}

// metaCanBe tells whether there are such a mode and such a time; of the least time of all a pair could not tell.
func metaCanBe(m api.Meta) bool {
	return m.Mode <= modeBits && m.Nano >= 0 && m.Nano < second && m.Time != math.MinInt64
}

// someText tells whether one of an entry's texts beside its name is so.
func someText(e api.Entry, so func(string) bool) bool {
	return so(e.User) || so(e.Group) || so(e.Link)
}

func tooLong(text string) bool {
	return len(text) > api.MaxPath
}

func hasZero(text string) bool {
	return strings.Contains(text, zero)
}
