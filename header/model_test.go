package header_test

import (
	"math"
	"math/rand"
	"reflect"
	"strings"
	"testing"

	"satchel/api"
	"satchel/field"
	"satchel/header"
)

// part is a row of the chapter's table: a text or a number, under the name that api.Header has for it, and the forms that have it.
type part struct {
	name        string
	from, width int
	number      bool
	forms       []int
}

var (
	forms = []int{api.V7, api.Ustar, api.GNU}
	table = []part{
		{"Name", 0, 100, false, forms},
		{"Mode", 100, 8, true, forms},
		{"UID", 108, 8, true, forms},
		{"GID", 116, 8, true, forms},
		{"Size", 124, 12, true, forms},
		{"Time", 136, 12, true, forms},
		{"Link", 157, 100, false, forms},
		{"User", 265, 32, false, forms[1:]},
		{"Group", 297, 32, false, forms[1:]},
		{"Major", 329, 8, true, forms[1:]},
		{"Minor", 337, 8, true, forms[1:]},
		{"Prefix", 345, 155, false, forms[1:2]},
	}
	magics = map[string]int{"\x00\x00\x00\x00\x00\x00\x00\x00": api.V7, "ustar\x0000": api.Ustar, "ustar  \x00": api.GNU}
)

// rows are the rows of texts, or of numbers, in the order of the table.
func rows(number bool) []part {
	var l []part
	for _, p := range table {
		if p.number == number {
			l = append(l, p)
		}
	}
	return l
}

func (p part) in(form int) bool {
	for _, f := range p.forms {
		if f == form {
			return true
		}
	}
	return false
}

// negative tells whether the number may be below 0.
func (p part) negative() bool {
	return p.name == "Time"
}

// at is where a header has what the row says.
func (p part) at(h *api.Header) reflect.Value {
	return reflect.ValueOf(h).Elem().FieldByName(p.name)
}

// withText is the header with another text there.
func (p part) withText(h api.Header, s string) api.Header {
	p.at(&h).SetString(s)
	return h
}

// withNumber is the header with another number there.
func (p part) withNumber(h api.Header, n int64) api.Header {
	p.at(&h).SetInt(n)
	return h
}

// with is the record with other bytes in the row's field, and its sum.
func (p part) with(r [512]byte, b string) [512]byte {
	if len(b) != p.width {
		panic("not a field's width")
	}
	copy(r[p.from:], b)
	return field.PutSum(r)
}

func modelDecode(r [512]byte) (api.Header, int, api.Errno) {
	if !field.Check(r) {
		return api.Header{}, 148, api.ErrSum
	}
	form, known := magics[string(r[257:265])]
	if !known {
		return api.Header{}, 257, api.ErrMagic
	}
	h := api.Header{Form: form, Type: r[156]}
	if h.Type == 0 {
		h.Type = 0x30
	}
	for _, p := range table {
		b := r[p.from : p.from+p.width]
		if !p.in(form) {
			continue
		}
		if !p.number {
			p.at(&h).SetString(field.Text(b))
			continue
		}
		n, why := field.Number(b)
		if why == api.OK && n < 0 && !p.negative() {
			why = api.ErrBig
		}
		if why != api.OK {
			return api.Header{}, p.from, why
		}
		p.at(&h).SetInt(n)
	}
	return h, 0, api.OK
}

// wrong tells whether the header says something that its form has not, or a zero in a text, or is of no form.
func wrong(h api.Header) bool {
	for _, p := range table {
		v := p.at(&h)
		if !p.in(h.Form) && !v.IsZero() || !p.number && strings.Contains(v.String(), "\x00") {
			return true
		}
	}
	return h.Form < 1 || h.Form > 3
}

func modelEncode(h api.Header) ([512]byte, api.Errno) {
	if wrong(h) {
		return [512]byte{}, api.ErrArg
	}
	if h.Type == 0 {
		return [512]byte{}, api.ErrType
	}
	var r [512]byte
	r[156] = h.Type
	for magic, form := range magics {
		if form == h.Form {
			copy(r[257:265], magic)
		}
	}
	for _, p := range table {
		if !p.in(h.Form) {
			continue
		}
		b, ok := modelField(p, h)
		if !ok {
			return [512]byte{}, api.ErrFits
		}
		copy(r[p.from:p.from+p.width], b)
	}
	return field.PutSum(r), api.OK
}

// modelField is what stands in a header's field, if it fits.
func modelField(p part, h api.Header) ([]byte, bool) {
	if !p.number {
		b, why := field.PutText(p.at(&h).String(), p.width)
		return b, why == api.OK
	}
	n := p.at(&h).Int()
	if n < 0 && !p.negative() {
		return nil, false
	}
	put := field.PutOctal
	if h.Form == api.GNU {
		put = field.PutNumber
	}
	b, why := put(n, p.width)
	return b, why == api.OK
}

// modelCut looks at each slash.
func modelCut(name string) (string, string, api.Errno) {
	if len(name) <= 100 {
		return "", name, api.OK
	}
	for at := 155; at >= 1; at-- {
		if at >= len(name) || name[at] != '/' {
			continue
		}
		if behind := len(name) - at - 1; behind >= 1 && behind <= 100 {
			return name[:at], name[at+1:], api.OK
		}
	}
	return "", "", api.ErrFits
}

// heldDecode holds Decode of a record to the model, and answers what it answers.
func heldDecode(t *testing.T, r [512]byte) (api.Header, int, api.Errno) {
	t.Helper()
	was := r
	h, at, why := modelDecode(r)
	if got, place, err := header.Decode(r); got != h || place != at || err != why {
		t.Fatalf("Decode: %+v %d %d, not %+v %d %d: %q", got, place, err, h, at, why, r)
	}
	if r != was {
		t.Fatal("Decode changes the record")
	}
	return h, at, why
}

// heldEncode holds Encode of a header to the model, its record to P13.5, and answers what it answers.
func heldEncode(t *testing.T, h api.Header) ([512]byte, api.Errno) {
	t.Helper()
	was := h
	r, why := modelEncode(h)
	got, err := header.Encode(h)
	if got != r || err != why {
		t.Fatalf("Encode(%+v): %d, not %d: %q, not %q", h, err, why, got, r)
	}
	if h != was {
		t.Fatal("Encode changes the header")
	}
	if why == api.OK {
		if again, at, err := header.Decode(got); again != h || at != 0 || err != api.OK {
			t.Fatalf("Decode(Encode(%+v)): %+v %d %d", h, again, at, err)
		}
	}
	return r, why
}

// heldCut holds Cut of a name to the model, what it answers to P13.6, and answers its error.
func heldCut(t *testing.T, name string) api.Errno {
	t.Helper()
	ahead, behind, why := modelCut(name)
	a, b, err := header.Cut(name)
	if a != ahead || b != behind || err != why {
		t.Fatalf("Cut(%q): %q %q %d, not %q %q %d", name, a, b, err, ahead, behind, why)
	}
	if whole := header.Name(api.Header{Name: b, Prefix: a}); why == api.OK && whole != name {
		t.Fatalf("Cut(%q) comes to %q", name, whole)
	}
	return why
}

// plain is a header of the form that says something in each of its fields.
func plain(form int) api.Header {
	h := api.Header{Form: form, Name: "dir/name", Mode: 0o644, UID: 1000, GID: 100, Size: 12345, Time: 1700000000, Type: '0', Link: "link"}
	if form != api.V7 {
		h.User, h.Group, h.Major, h.Minor = "user", "group", 8, 17
	}
	if form == api.Ustar {
		h.Prefix = "some/prefix"
	}
	return h
}

// record is plain's.
func record(t *testing.T, form int) [512]byte {
	t.Helper()
	r, why := heldEncode(t, plain(form))
	if why != api.OK {
		t.Fatal(why)
	}
	return r
}

// edges are the numbers at which something becomes another: the powers of 2, and those beside them, on either side of 0.
func edges() []int64 {
	l := []int64{math.MinInt64, math.MinInt64 + 1, math.MaxInt64}
	for i := range 63 {
		for _, more := range []int64{-1, 0, 1} {
			l = append(l, 1<<i+more, -1<<i+more)
		}
	}
	return l
}

// noise is so many bytes by chance.
func noise(r *rand.Rand, n int) string {
	b := make([]byte, n)
	r.Read(b)
	return string(b)
}
