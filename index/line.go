package index

import (
	"strconv"
	"strings"

	"satchel/api"
)

// Line is what a listing says of an entry.
func (x *Index) Line(i int) string {
	if !x.has(i) {
		return ""
	}
	e := x.items[i].Entry
	return strings.Join([]string{
		letters(e),
		owner(e.User, e.Meta.Uid) + "/" + owner(e.Group, e.Meta.Gid),
		strconv.FormatInt(e.Size, 10),
		moment(e.Meta.Time),
		e.Name + meaning(e),
	}, " ")
}

// letters is an entry's kind and mode.
func letters(e api.Entry) string {
	b := []byte{kindLetter(e.Kind)}
	b = append(b, rights(e.Meta.Mode>>6, e.Meta.Mode&2048 != 0, 's', 'S')...)
	b = append(b, rights(e.Meta.Mode>>3, e.Meta.Mode&1024 != 0, 's', 'S')...)
	b = append(b, rights(e.Meta.Mode, e.Meta.Mode&512 != 0, 't', 'T')...)
	return string(b)
}

func kindLetter(kind int) byte {
	switch kind {
	case api.Dir:
		return 'd'
	case api.Symlink:
		return 'l'
	case api.HardLink:
		return 'h'
	case api.Device:
		return '?'
	}
	return '-'
}

// rights is what the lowest three bits allow; with a special bit the last letter is one of two, as it allows to run or not.
func rights(bits uint32, special bool, with, without byte) []byte {
	b := []byte("---")
	if bits&4 != 0 {
		b[0] = 'r'
	}
	if bits&2 != 0 {
		b[1] = 'w'
	}
	switch run := bits&1 != 0; {
	case run && special:
		b[2] = with
	case run:
		b[2] = 'x'
	case special:
		b[2] = without
	}
	return b
}

// owner is a name, or the number of one who has none.
func owner(name string, number uint32) string {
	if name != "" {
		return name
	}
	return strconv.FormatUint(uint64(number), 10)
}

// meaning is what stands behind a link's name.
func meaning(e api.Entry) string {
	switch e.Kind {
	case api.Symlink:
		return " -> " + e.Link
	case api.HardLink:
		return " link to " + e.Link
	}
	return ""
}
