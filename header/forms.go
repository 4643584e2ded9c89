package header

import (
	"strings"

	"satchel/api"
	"satchel/field"
)

const (
	magicV7    = "\x00\x00\x00\x00\x00\x00\x00\x00"
	magicUstar = "ustar\x0000"
	magicGNU   = "ustar  \x00"
)

// form is one of the three: its number, where its fields end, and the way it has of writing numbers.
type form struct {
	number int
	end    int
	put    func(n int64, width int) ([]byte, api.Errno)
}

// forms are the forms by their magics.
func forms() map[string]form {
	return map[string]form{
		magicV7:    {api.V7, magicAt, field.PutOctal},
		magicUstar: {api.Ustar, end, field.PutOctal},
		magicGNU:   {api.GNU, prefixAt, field.PutNumber},
	}
}

// magicOf is the magic of the form of that number; no form has the empty one.
func magicOf(number int) string {
	switch number {
	case api.V7:
		return magicV7
	case api.Ustar:
		return magicUstar
	case api.GNU:
		return magicGNU
	}
	return ""
}

func (f form) has(s span) bool {
	return s.from < f.end
}

// canSay tells whether no text has a zero, and nothing is said that the form has not.
func (f form) canSay(h *api.Header) bool {
	for _, x := range texts() {
		s := *x.says(h)
		if strings.Contains(s, "\x00") || s != "" && !f.has(x.span) {
			return false
		}
	}
	for _, x := range numbers() {
		if *x.says(h) != 0 && !f.has(x.span) {
			return false
		}
	}
	return true
}
