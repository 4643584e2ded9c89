package header_test

import (
	"math"
	"math/rand"
	"strings"
	"testing"

	"satchel/api"
	"satchel/field"
	"satchel/header"
)

// P13.1, P13.2, P13.3, P13.4: the chapter's examples.
func TestExamples(t *testing.T) {
	h := api.Header{Form: api.Ustar, Name: "a", Mode: 420, Size: 3, Type: '0'}
	r, why := heldEncode(t, h)
	want := field.PutSum(whole(t, filled("a", 100)+"0000644\x00"+"0000000\x00"+"0000000\x00"+"00000000003\x00"+"00000000000\x00"+"        "+"0"+zeros(100)+"ustar\x0000"+zeros(64)+"0000000\x00"+"0000000\x00"+zeros(167)))
	if r != want || why != api.OK {
		t.Errorf("%d %q", why, r)
	}
	h.Size = 1 << 33
	if r, why := heldEncode(t, h); r != [512]byte{} || why != api.ErrFits {
		t.Errorf("Size 2^33: %d", why)
	}
	h.Form = api.GNU
	if r, why := heldEncode(t, h); string(r[124:136]) != "\x80\x00\x00\x00\x00\x00\x00\x02\x00\x00\x00\x00" || why != api.OK {
		t.Errorf("Size 2^33, GNU: %d", why)
	}
	if got, at, why := header.Decode([512]byte{}); got != (api.Header{}) || at != 148 || why != api.ErrSum {
		t.Errorf("zeros: %+v %d %d", got, at, why)
	}
	ahead, behind, why := header.Cut(strings.Repeat("d/", 50) + strings.Repeat("x", 60))
	if ahead != strings.Repeat("d/", 49)+"d" || behind != strings.Repeat("x", 60) || why != api.OK {
		t.Errorf("Cut: %q %q %d", ahead, behind, why)
	}
	if ahead, behind, why := header.Cut(strings.Repeat("x", 101)); ahead != "" || behind != "" || why != api.ErrFits {
		t.Errorf("Cut of 101 bytes: %q %q %d", ahead, behind, why)
	}
	if header.Records(513) != 2 || header.Pad(513) != 511 || header.Pad(512) != 0 {
		t.Error("Records, Pad")
	}
}

// P13.2: a record of each form, byte by byte; the fields that the form has not, and the bytes that no field has, are zeros.
func TestEncodeForms(t *testing.T) {
	ahead := filled("dir/name", 100) + "0000644\x00" + "0001750\x00" + "0000144\x00" + "00000030071\x00" + "14524770400\x00" + "        " + "0" + filled("link", 100)
	users := filled("user", 32) + filled("group", 32) + "0000010\x00" + "0000021\x00"
	for form, b := range map[int]string{
		api.V7:    ahead + zeros(255),
		api.Ustar: ahead + "ustar\x0000" + users + filled("some/prefix", 155) + zeros(12),
		api.GNU:   ahead + "ustar  \x00" + users + zeros(167),
	} {
		if r, why := heldEncode(t, plain(form)); r != field.PutSum(whole(t, b)) || why != api.OK {
			t.Errorf("form %d: %d %q", form, why, r)
		}
	}
}

// P13.2: each text empty, just fitting, and one byte too long.
func TestEncodeTexts(t *testing.T) {
	for _, form := range forms {
		for _, p := range rows(false) {
			for _, n := range []int{0, 1, p.width - 1, p.width, p.width + 1, 511, 512, 513, 5000} {
				want := api.OK
				if n > p.width {
					want = api.ErrFits
				}
				if n > 0 && !p.in(form) {
					want = api.ErrArg
				}
				for _, x := range []string{"x", "\xff", "/", " "} {
					h := p.withText(plain(form), strings.Repeat(x, n))
					if r, why := heldEncode(t, h); why != want || why != api.OK && r != [512]byte{} {
						t.Fatalf("form %d, %s of %d bytes: %d", form, p.name, n, why)
					}
				}
			}
		}
	}
}

// P13.2: a byte 0 in each text, wherever it stands, also in one that is too long.
func TestEncodeZero(t *testing.T) {
	for _, form := range forms {
		for _, p := range rows(false) {
			for _, s := range []string{"\x00", "\x00a", "a\x00", "a\x00b", zeros(p.width), zeros(p.width + 1), strings.Repeat("x", p.width-1) + "\x00", strings.Repeat("x", p.width) + "\x00", strings.Repeat("x", 600) + "\x00x"} {
				if r, why := heldEncode(t, p.withText(plain(form), s)); r != [512]byte{} || why != api.ErrArg {
					t.Errorf("form %d, %s %.20q: %d", form, p.name, s, why)
				}
			}
		}
	}
}

// P13.2: each number at the edges of its field, in octal digits and in base 256.
func TestEncodeNumbers(t *testing.T) {
	for _, form := range forms {
		for _, p := range rows(true) {
			for _, n := range edges() {
				if _, why := heldEncode(t, p.withNumber(plain(form), n)); why != numberWhy(p, form, n) {
					t.Fatalf("form %d, %s %d: %d", form, p.name, n, why)
				}
			}
		}
	}
}

// numberWhy is what must be answered of a number.
func numberWhy(p part, form int, n int64) api.Errno {
	octal := int64(1)<<(3*(p.width-1)) - 1
	switch {
	case !p.in(form) && n != 0:
		return api.ErrArg
	case !p.in(form):
		return api.OK
	case n < 0 && p.name == "Time" && form == api.GNU:
		return api.OK
	case n < 0:
		return api.ErrFits
	case n <= octal:
		return api.OK
	case form != api.GNU:
		return api.ErrFits
	case p.width == 8 && n >= 1<<62:
		return api.ErrFits
	}
	return api.OK
}

// P13.2: a number stands in octal digits up to the last one that they have room for, in GNU's form too.
func TestEncodeDigits(t *testing.T) {
	for _, form := range forms {
		h := plain(form)
		h.Mode, h.Size, h.Time = 1<<21-1, 1<<33-1, 1<<33-1
		r, why := heldEncode(t, h)
		if string(r[100:108]) != "7777777\x00" || string(r[124:136]) != "77777777777\x00" || string(r[136:148]) != "77777777777\x00" || why != api.OK {
			t.Errorf("form %d: %q %d", form, r[100:148], why)
		}
	}
	h := plain(api.GNU)
	h.Mode, h.Size, h.Time, h.Minor = 1<<21, math.MaxInt64, -1, 1<<62-1
	r, why := heldEncode(t, h)
	for at, want := range map[int]string{
		100: "\x80\x00\x00\x00\x00\x20\x00\x00",
		124: "\x80\x00\x00\x00\x7f\xff\xff\xff\xff\xff\xff\xff",
		136: "\xff\xff\xff\xff\xff\xff\xff\xff\xff\xff\xff\xff",
		337: "\xbf\xff\xff\xff\xff\xff\xff\xff",
	} {
		if got := string(r[at : at+len(want)]); got != want || why != api.OK {
			t.Errorf("at %d: %q %d", at, got, why)
		}
	}
}

// P13.2: each Type but 0 is taken; Forms that are none of the three are not.
func TestEncodeTypes(t *testing.T) {
	for _, form := range forms {
		h := plain(form)
		for x := range 256 {
			h.Type = byte(x)
			want := api.OK
			if x == 0 {
				want = api.ErrType
			}
			if r, why := heldEncode(t, h); why != want || r[156] != byte(x) || x == 0 && r != [512]byte{} {
				t.Errorf("form %d, type %d: %d", form, x, why)
			}
		}
	}
	for _, form := range []int{0, -1, api.Pax, 5, 100, 256 + 1, 1<<32 + 2, math.MaxInt, math.MinInt} {
		for _, h := range []api.Header{{Name: "a", Type: '0'}, {}, plain(api.V7), plain(api.Ustar)} {
			h.Form = form
			if r, why := heldEncode(t, h); r != [512]byte{} || why != api.ErrArg {
				t.Errorf("form %d: %d", form, why)
			}
		}
	}
}

// faults are headers of the form that are refused with that error for one thing alone, as what makes them so.
func faults(form int) map[api.Errno][]func(*api.Header) {
	l := map[api.Errno][]func(*api.Header){
		api.ErrType: {func(h *api.Header) { h.Type = 0 }},
	}
	for _, p := range rows(false) {
		l[api.ErrArg] = append(l[api.ErrArg], func(h *api.Header) { *h = p.withText(*h, "a\x00b") })
		why := api.ErrFits
		if !p.in(form) {
			why = api.ErrArg
		}
		l[why] = append(l[why], func(h *api.Header) { *h = p.withText(*h, strings.Repeat("x", p.width+1)) })
	}
	for _, p := range rows(true) {
		if p.negative() && form == api.GNU { // it takes all times
			continue
		}
		why := api.ErrFits
		if !p.in(form) {
			why = api.ErrArg
		}
		l[why] = append(l[why], func(h *api.Header) { *h = p.withNumber(*h, math.MinInt64) })
	}
	return l
}

// P13.2: of two faults the one that the chapter names first is told.
func TestEncodeTwo(t *testing.T) {
	order := []api.Errno{api.ErrArg, api.ErrType, api.ErrFits}
	for _, form := range forms {
		all := faults(form)
		for i, first := range order {
			for _, second := range order[i:] {
				for _, one := range all[first] {
					for _, two := range all[second] {
						h := plain(form)
						two(&h)
						if _, why := heldEncode(t, h); why != second {
							t.Fatalf("form %d: %+v: %d, not %d", form, h, why, second)
						}
						one(&h)
						if _, why := heldEncode(t, h); why != first {
							t.Fatalf("form %d: %+v: %d, not %d", form, h, why, first)
						}
					}
				}
			}
		}
	}
}

// byChance is a header by chance; many of them fit.
func byChance(chance *rand.Rand) api.Header {
	h := api.Header{Form: 1 + chance.Intn(3), Type: byte(1 + chance.Intn(255))}
	if chance.Intn(16) == 0 {
		h.Form = chance.Intn(6)
	}
	if chance.Intn(16) == 0 {
		h.Type = 0
	}
	lot := edges()
	for _, p := range table {
		if !p.in(h.Form) && chance.Intn(32) > 0 || chance.Intn(3) == 0 {
			continue
		}
		if p.number {
			n := chance.Int63() >> chance.Intn(63)
			switch chance.Intn(16) {
			case 0:
				n = lot[chance.Intn(len(lot))]
			case 1, 2, 3, 4, 5, 6, 7, 8:
				n = int64(chance.Intn(1 << 21))
			}
			h = p.withNumber(h, n)
			continue
		}
		s := strings.ReplaceAll(noise(chance, chance.Intn(p.width+1)), "\x00", "z")
		switch chance.Intn(32) {
		case 0:
			s += "\x00"
		case 1:
			s += strings.Repeat("y", p.width-len(s)+chance.Intn(2))
		}
		h = p.withText(h, s)
	}
	return h
}

// P13.2, P13.5: headers by chance, and what was made of them read again.
func TestEncodeChance(t *testing.T) {
	t.Parallel()
	chance := rand.New(rand.NewSource(13))
	seen := make(map[api.Errno]int)
	taken := make(map[int]int)
	for range 40000 {
		h := byChance(chance)
		_, why := heldEncode(t, h)
		seen[why]++
		if why == api.OK {
			taken[h.Form]++
		}
	}
	for _, why := range []api.Errno{api.OK, api.ErrArg, api.ErrType, api.ErrFits} {
		if seen[why] < 1000 {
			t.Errorf("%d times %d", seen[why], why)
		}
	}
	for _, form := range forms {
		if taken[form] < 500 {
			t.Errorf("%d of form %d are taken", taken[form], form)
		}
	}
}
