package sparse

import (
	"satchel/api"
	"satchel/field"
)

const (
	numberWide = 12
	rangeWide  = 2 * numberWide
	sizeAt     = 483
)

// table is where ranges stand in a record: from which place on, and how many there is room for. Behind them stands the byte that tells whether a further record follows.
type table struct{ from, room int }

func ofFirst() table {
	return table{386, 4}
}

func ofFurther() table {
	return table{0, 21}
}

// end is the place of the byte behind the ranges.
func (t table) end() int {
	return t.from + t.room*rangeWide
}

// slot is a range's bytes in a record.
type slot [rangeWide]byte

// PutOld puts a map and a size into a record, in GNU's old way, and what there is no room for into further ones.
func PutOld(r [api.Record]byte, l []api.Range, size int64) ([api.Record]byte, [][api.Record]byte, api.Errno) {
	if !Valid(l, size) {
		return r, nil, api.ErrArg
	}
	first := r
	rest, fits := ofFirst().put(&first, l)
	fits = putNumber(first[sizeAt:], size) && fits
	var more [][api.Record]byte
	for fits && len(rest) > 0 {
		var further [api.Record]byte
		rest, fits = ofFurther().put(&further, rest)
		more = append(more, further)
	}
	if !fits {
		return r, nil, api.ErrFits
	}
	return first, more, api.OK
}

// put writes as many ranges as there is room for, over whatever stood there; it answers the others, and whether all numbers fit.
func (t table) put(r *[api.Record]byte, l []api.Range) ([]api.Range, bool) {
	clear(r[t.from : t.end()+1])
	here := min(len(l), t.room)
	if here < len(l) {
		r[t.end()] = 1
	}
	for i, x := range l[:here] {
		b := r[t.from+i*rangeWide:]
		if !putNumber(b, x.From) || !putNumber(b[numberWide:], x.To-x.From) {
			return nil, false
		}
	}
	return l[here:], true
}

// putNumber writes a number to b's beginning, and tells whether it fits.
func putNumber(b []byte, n int64) bool {
	digits, why := field.PutNumber(n, numberWide)
	copy(b, digits)
	return why == api.OK
}

// ReadOld reads the ranges and the size that a record has in GNU's old way, and whether a further record follows.
func ReadOld(r [api.Record]byte) ([]api.Range, int64, bool, api.Errno) {
	l, follows, why := ofFirst().read(&r)
	if why != api.OK {
		return nil, 0, false, why
	}
	size, why := number(r[sizeAt:])
	if why != api.OK {
		return nil, 0, false, why
	}
	return l, size, follows, api.OK
}

// ReadMore reads the ranges of such a further record, and whether another one follows.
func ReadMore(r [api.Record]byte) ([]api.Range, bool, api.Errno) {
	return ofFurther().read(&r)
}

// read is the ranges up to the first that is none, and whether a further record follows.
func (t table) read(r *[api.Record]byte) ([]api.Range, bool, api.Errno) {
	var l []api.Range
	for from := t.from; from < t.end(); from += rangeWide {
		s := slot(r[from : from+rangeWide])
		if s == (slot{}) {
			break
		}
		x, why := told(s.numbers())
		if why != api.OK {
			return nil, false, why
		}
		l = append(l, x)
	}
	return l, r[t.end()] != 0, api.OK
}

// numbers tells the two numbers of a range, one behind the other.
func (s slot) numbers() func() (int64, api.Errno) {
	rest := s[:]
	return func() (int64, api.Errno) {
		n, why := number(rest)
		rest = rest[numberWide:]
		return n, why
	}
}

// number is the number at b's beginning.
func number(b []byte) (int64, api.Errno) {
	n, why := field.Number(b[:numberWide])
	if why == api.OK && n < 0 {
		return 0, api.ErrForm
	}
	return n, why
}
