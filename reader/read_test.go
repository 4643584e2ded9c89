package reader_test

import (
	"fmt"
	"slices"
	"strings"
	"testing"

	"satchel/api"
	"satchel/reader"
)

// P16.1, P16.2: the chapter's first example.
func TestExampleOfPlaces(t *testing.T) {
	holding(t, zeros(1024), nil, 0, api.OK)
	holding(t, strings.Repeat("x", 100), nil, 100, api.ErrShort)
	b := file(t, "a", "xyz")
	l := holding(t, b, []string{"a"}, 1024, api.OK)
	want := api.Item{
		Entry: api.Entry{Name: "a", Kind: api.File, Meta: api.Meta{Mode: 0o644}, Size: 3},
		Form:  api.Ustar, Type: '0', Data: 512, Next: 1024, Held: 3,
	}
	if !sameItem(l[0], want) {
		t.Errorf("%+v", l[0])
	}
	holding(t, b[:1023], nil, 1023, api.ErrShort)
}

// P16.1, P16.2: the chapter's second example.
func TestExampleOfLongNames(t *testing.T) {
	long := tell(t, api.GNU, 'L', "long\x00")
	l := holding(t, long+file(t, "a", "xyz"), []string{"long"}, 2048, api.OK)
	if l[0].From != 0 || l[0].Head != 1024 || l[0].Data != 1536 || l[0].Next != 2048 {
		t.Errorf("%+v", l[0])
	}
	holding(t, long, nil, 0, api.ErrAlone)
}

// P16.1, P16.2: the chapter's third example.
func TestExampleOfGlobals(t *testing.T) {
	one := put(t, api.Header{Name: "a", User: "u"}, "")
	b := tell(t, api.Ustar, 'g', "11 uname=x\n") + one + one + tell(t, api.Ustar, 'g', "9 uname=\n") + one
	var users []string
	for _, x := range holding(t, b, []string{"a", "a", "a"}, len(b), api.OK) {
		users = append(users, x.Entry.User)
	}
	if !slices.Equal(users, []string{"x", "x", "u"}) {
		t.Errorf("%q", users)
	}
}

// P16.1: archives of no bytes, of zero records alone, with bytes behind the zero record, that end at a record's end and within one.
func TestEnds(t *testing.T) {
	a := file(t, "a", "xyz")
	d := put(t, api.Header{Name: "d", Type: '5'}, "")
	wrong := strings.Repeat("x", 512)
	for _, x := range []struct {
		b     string
		names []string
		at    int
		why   api.Errno
	}{
		{"", nil, 0, api.OK},
		{zeros(512), nil, 0, api.OK},
		{zeros(1024), nil, 0, api.OK},
		{zeros(20 * 512), nil, 0, api.OK},
		{zeros(512) + "x", nil, 0, api.OK},
		{zeros(512) + wrong, nil, 0, api.OK},
		{zeros(512) + a, nil, 0, api.OK},
		{zeros(1023), nil, 0, api.OK},
		{zeros(1), nil, 1, api.ErrShort}, // no record of zeros: it is not whole
		{zeros(511), nil, 511, api.ErrShort},
		{"x", nil, 1, api.ErrShort},
		{wrong[:511], nil, 511, api.ErrShort},
		{wrong, nil, 148, api.ErrSum},
		{zeros(511) + "x", nil, 148, api.ErrSum},
		{"x" + zeros(511), nil, 148, api.ErrSum},

		{a, []string{"a"}, 1024, api.OK},
		{a + zeros(512), []string{"a"}, 1024, api.OK},
		{a + zeros(1024), []string{"a"}, 1024, api.OK},
		{a + zeros(512) + a, []string{"a"}, 1024, api.OK},
		{a + zeros(512) + wrong, []string{"a"}, 1024, api.OK},
		{a + zeros(512) + "x", []string{"a"}, 1024, api.OK},
		{a + zeros(1), []string{"a"}, 1025, api.ErrShort},
		{a + zeros(511), []string{"a"}, 1535, api.ErrShort},
		{a + "x", []string{"a"}, 1025, api.ErrShort},
		{a + wrong, []string{"a"}, 1024 + 148, api.ErrSum},
		{a + d, []string{"a", "d"}, 1536, api.OK},
		{d + a, []string{"d", "a"}, 1536, api.OK},
		{d + d[:511], []string{"d"}, 1023, api.ErrShort},
		{d + a[:1023], []string{"d"}, 1535, api.ErrShort},
		{d + a[:512], []string{"d"}, 1024, api.ErrShort},
		{d + zeros(512) + longName(t, "l"), []string{"d"}, 512, api.OK},
	} {
		holding(t, x.b, x.names, x.at, x.why)
	}
	if l, at, why := reader.Read(nil); len(l) != 0 || at != 0 || why != api.OK {
		t.Errorf("of nil: %v %d %d", l, at, why)
	}
	if x, there, why := reader.New(nil).Next(); !sameItem(x, api.Item{}) || there || why != api.OK {
		t.Errorf("Next of nil: %v %t %d", x, there, why)
	}
}

// P16.1: headers of each form that say something in each field.
func TestFields(t *testing.T) {
	for _, form := range forms {
		h := api.Header{Form: form, Name: "dir/name", Mode: 0o107644, UID: 1000, GID: 100, Size: 12, Time: 1700000000, Type: '0', Link: "link"}
		want := api.Item{
			Entry: api.Entry{Name: "dir/name", Kind: api.File, Meta: api.Meta{Mode: 0o7644, Uid: 1000, Gid: 100, Time: 1700000000}, Size: 12},
			Form:  form, Type: '0', Data: 512, Next: 1024, Held: 12,
		}
		if form != api.V7 {
			h.User, h.Group, h.Major, h.Minor = "user", "group", 8, 17
			want.Entry.User, want.Entry.Group = "user", "group"
		}
		if form == api.Ustar {
			h.Prefix = "pre/fix"
			want.Entry.Name = "pre/fix/dir/name"
		}
		l, _, why := held(t, put(t, h, "twelve bytes"))
		if why != api.OK || len(l) != 1 || !sameItem(l[0], want) {
			t.Errorf("form %d: %+v %d, not %+v", form, l, why, want)
		}
	}
}

// P16.1: of a header's time and mode: times below 0, modes with higher bits.
func TestTimesAndModes(t *testing.T) {
	for _, n := range []int64{0, 1, -1, 1 << 33, -1 << 63, 1<<63 - 1} {
		for _, mode := range []int64{0, 0o777, 0o7777, 0o10000, 0o100644, 1<<62 - 1} {
			l, _, why := held(t, put(t, api.Header{Form: api.GNU, Name: "a", Mode: mode, Time: n}, ""))
			if want := (api.Meta{Mode: uint32(mode & 4095), Time: n}); why != api.OK || len(l) != 1 || l[0].Entry.Meta != want {
				t.Errorf("time %d, mode %o: %+v %d", n, mode, l, why)
			}
		}
	}
}

// kindOf is what an entry of a type is, if its name ends with no slash.
func kindOf(form int, kind byte) int {
	switch kind {
	case 0, '0', '7':
		return api.File
	case '1':
		return api.HardLink
	case '2':
		return api.Symlink
	case '5':
		return api.Dir
	case 'S':
		if form == api.GNU {
			return api.File
		}
	}
	return api.Device
}

// P16.1: a header of each type, in each form, with and without data and with more than one record of them, alone and with an entry behind it.
func TestTypes(t *testing.T) {
	behind := file(t, "behind", "b")
	for _, form := range forms {
		for n := range 256 {
			kind := byte(n)
			if slices.Contains([]byte("gxLK"), kind) || form == api.GNU && kind == 'S' {
				continue
			}
			for _, size := range []int{0, 1, 511, 512, 513, 2000} {
				data := strings.Repeat("d", size)
				b := with(put(t, api.Header{Form: form, Name: "name", Link: "link", Type: '0'}, data), 156, string([]byte{kind}))
				want := api.Item{
					Entry: api.Entry{Name: "name", Kind: kindOf(form, kind)},
					Form:  form, Type: max(kind, '0'), Data: 512, Held: int64(size), Next: 512 + (size+511)/512*512,
				}
				if kind > 0 && kind < '0' {
					want.Type = kind
				}
				switch want.Entry.Kind {
				case api.File:
					want.Entry.Size = int64(size)
				case api.Device:
					want.Entry.Type = kind
				case api.HardLink, api.Symlink:
					want.Entry.Link = "link"
				}
				if kind >= '1' && kind <= '6' {
					want.Held, want.Next = 0, 512
					b = b[:512]
				}
				l, _, why := held(t, b)
				if why != api.OK || len(l) != 1 || !sameItem(l[0], want) {
					t.Fatalf("form %d, type %q: %+v %d, not %+v", form, kind, l, why, want)
				}
				if l, _, why := held(t, b+behind); why != api.OK || len(l) != 2 || !sameItem(l[0], want) || l[1].Entry.Name != "behind" {
					t.Fatalf("form %d, type %q: %+v %d", form, kind, l, why)
				}
			}
		}
	}
}

// P16.1: headers of the types 1 to 6 have no data, whatever their size says: of the header, and of the pairs.
func TestNoData(t *testing.T) {
	behind := file(t, "behind", "b")
	for _, form := range forms {
		for _, kind := range []byte("123456") {
			for _, size := range []int64{1, 512, 513, 1 << 20, 1<<33 - 1} {
				h := put(t, api.Header{Form: form, Name: "name", Type: kind, Size: size}, "")
				l := holding(t, h+behind, []string{"name", "behind"}, 512+1024, api.OK)
				if x := l[0]; x.Held != 0 || x.Entry.Size != 0 || x.Data != 512 || x.Next != 512 {
					t.Errorf("form %d, type %q: %+v", form, kind, x)
				}
				told := local(t, "size", fmt.Sprint(uint64(size)<<20))
				if x := holding(t, told+h+behind, []string{"name", "behind"}, 1536+1024, api.OK)[0]; x.Held != 0 || x.Next != 1536 {
					t.Errorf("form %d, type %q: %+v", form, kind, x)
				}
			}
		}
	}
}

// P16.1: names that end with a slash: a Dir of type 0 alone, whatever tells the name; its data are gone past.
func TestSlashes(t *testing.T) {
	for _, form := range forms {
		for _, x := range []struct {
			ahead, name, want string
			dir               bool
		}{
			{"", "d/", "d/", true},
			{"", "d//", "d//", true},
			{"", "/", "/", true},
			{"", "d", "d", false},
			{"", "", "", false},
			{"", "d/x", "d/x", false},
			{"", "d/\\", "d/\\", false},
			{longName(t, "long/"), "d", "long/", true},
			{longName(t, "long"), "d/", "long", false},
			{longName(t, ""), "d/", "", false},
			{local(t, "path", "p/"), "d", "p/", true},
			{local(t, "path", "p"), "d/", "p", false},
			{local(t, "path", "p/") + longName(t, "long"), "d", "p/", true},
			{local(t, "path", "p") + longName(t, "long/"), "d/", "p", false},
			{local(t, "path", ""), "d/", "d/", true},
			{local(t, "GNU.sparse.name", "s/"), "d", "d", false}, // of a file without holes it says nothing
			{local(t, "GNU.sparse.name", "s"), "d/", "d/", true},
		} {
			for _, kind := range []byte("0127356SZ") {
				if kind == 'S' && form == api.GNU {
					continue
				}
				b := x.ahead + put(t, api.Header{Form: form, Name: x.name, Type: kind}, "data")
				want := kindOf(form, kind)
				if x.dir && kind == '0' {
					want = api.Dir
				}
				l, _, why := held(t, b[:len(b)-512*btoi(kind >= '1' && kind <= '6')])
				if why != api.OK || len(l) != 1 || l[0].Entry.Name != x.want || l[0].Entry.Kind != want {
					t.Fatalf("form %d, type %q, %q: %+v %d", form, kind, x.name, l, why)
				}
				if e := l[0].Entry; want == api.Dir && (e.Size != 0 || kind == '0' && l[0].Held != 4) {
					t.Fatalf("form %d, type %q, %q: %+v", form, kind, x.name, l)
				}
			}
		}
	}
	// The slash of the prefix, and none behind it.
	b := put(t, api.Header{Name: "", Prefix: "pre"}, "")
	if l := holding(t, b, []string{"pre/"}, 512, api.OK); l[0].Entry.Kind != api.Dir {
		t.Errorf("%+v", l)
	}
}

func btoi(b bool) int {
	if b {
		return 1
	}
	return 0
}

// P16.1: all rows of up to three headers of every sort, in each form, and of up to four that begin with two that tell of others; records of zeros and broken ones among them.
func TestRows(t *testing.T) {
	t.Parallel()
	for _, form := range forms {
		sorts := []string{
			put(t, api.Header{Form: form, Name: "file", Type: '0'}, "some"),
			put(t, api.Header{Form: form, Name: "hard", Type: '1', Link: "to", Size: 99}, ""),
			put(t, api.Header{Form: form, Name: "fifo", Type: '6'}, ""),
			put(t, api.Header{Form: form, Name: "odd", Type: 'V'}, strings.Repeat("v", 513)),
			tell(t, form, 'g', lines(t, "uname", "g", "path", "global")),
			tell(t, form, 'g', lines(t, "uname", "", "path", "", "gname", "gg")),
			tell(t, form, 'x', lines(t, "path", "local", "mtime", "1.5")),
			tell(t, form, 'x', lines(t, "path", "", "gname", "")),
			tell(t, form, 'L', "long\x00more"),
			tell(t, form, 'K', "longer"),
			zeros(512),
			strings.Repeat("?", 512),
		}
		var rows func(row string, more int)
		rows = func(row string, more int) {
			held(t, row)
			for _, s := range sorts {
				if more > 0 {
					rows(row+s, more-1)
				}
			}
		}
		rows("", 3)
		for _, s := range sorts[4:10] {
			for _, u := range sorts[4:10] {
				rows(s+u, 2)
			}
		}
	}
}
