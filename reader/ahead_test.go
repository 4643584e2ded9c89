package reader_test

import (
	"fmt"
	"slices"
	"strings"
	"testing"

	"satchel/api"
	"satchel/reader"
)

// P16.1: g, x, L and K alone and several of them, in each order and each form, ahead of no entry: ErrAlone at the first that is no g.
func TestAlone(t *testing.T) {
	for _, form := range forms {
		sorts := map[byte]string{
			'g': tell(t, form, 'g', lines(t, "k", "v")),
			'x': tell(t, form, 'x', lines(t, "path", "p")),
			'L': tell(t, form, 'L', "name"),
			'K': tell(t, form, 'K', ""), // of no data
		}
		var rows func(row, letters string, first int)
		rows = func(row, letters string, first int) {
			for _, ahead := range []string{"", file(t, "f", "data")} {
				names := []string{"f"}[:btoi(ahead != "")]
				at, why := len(ahead+row), api.OK
				if first >= 0 {
					at, why = len(ahead)+first, api.ErrAlone
				}
				for _, end := range []string{"", zeros(512), zeros(1024), zeros(512) + "x"} {
					holding(t, ahead+row+end, names, at, why)
				}
				// What can't be read is found ahead of that.
				holding(t, ahead+row+"x", names, len(ahead+row)+1, api.ErrShort)
				holding(t, ahead+row+zeros(511), names, len(ahead+row)+511, api.ErrShort)
				holding(t, ahead+row+strings.Repeat("x", 512), names, len(ahead+row)+148, api.ErrSum)
			}
			if len(letters) == 4 {
				return
			}
			for kind, b := range sorts {
				place := first
				if first < 0 && kind != 'g' {
					place = len(row)
				}
				rows(row+b, letters+string(kind), place)
			}
		}
		rows("", "", -1)
	}
}

// P16.1: all orders of g, x, L and K ahead of an entry: it takes them all, and its From is the first that is no g; the next one takes none.
func TestOrders(t *testing.T) {
	sorts := map[byte]string{
		'g': global(t, "uname", "global", "path", "of all"),
		'x': local(t, "gname", "local", "path", "of one"),
		'L': longName(t, "long"),
		'K': longLink(t, "longer"),
	}
	link := put(t, api.Header{Name: "n", Type: '2', Link: "l", User: "u", Group: "g"}, "")
	var orders func(row, letters string, from int)
	orders = func(row, letters string, from int) {
		has := func(kind string) bool { return strings.Contains(letters, kind) }
		want := api.Item{
			Entry: api.Entry{Name: "n", Kind: api.Symlink, User: "u", Group: "g", Link: "l"},
			Form:  api.Ustar, Type: '2',
		}
		next := want
		say := func(x *api.Item, name string, pairs ...api.Pair) {
			x.Entry.Name = name
			x.Pairs = pairs
		}
		if has("K") {
			want.Entry.Link = "longer"
		}
		if has("L") {
			want.Entry.Name = "long"
		}
		user, path := api.Pair{Key: "uname", Value: "global"}, api.Pair{Key: "path", Value: "of all"}
		if has("g") {
			want.Entry.User, next.Entry.User = "global", "global"
			say(&want, "of all", path, user)
			say(&next, "of all", path, user)
		}
		if has("x") {
			want.Entry.Group = "local"
			say(&want, "of one", slices.Concat([]api.Pair{{Key: "gname", Value: "local"}, {Key: "path", Value: "of one"}}, []api.Pair{user}[:btoi(has("g"))])...)
		}
		want.Head, want.Data, want.Next, want.From = len(row), len(row)+512, len(row)+512, from
		if from < 0 {
			want.From = want.Head
		}
		next.From, next.Head, next.Data, next.Next = want.Next, want.Next, want.Next+512, want.Next+512
		l, at, why := held(t, row+link+link)
		if why != api.OK || at != next.Next || !sameItems(l, []api.Item{want, next}) {
			t.Errorf("%q: %+v %d %d, not %+v", letters, l, at, why, want)
		}
		for kind, b := range sorts {
			if has(string(kind)) {
				continue
			}
			first := from
			if from < 0 && kind != 'g' {
				first = len(row)
			}
			orders(row+b, letters+string(kind), first)
		}
	}
	orders("", "", -1)
}

// P16.1: of several long names and links the last one counts; of several locals each, one behind the other.
func TestSeveral(t *testing.T) {
	link := put(t, api.Header{Name: "n", Type: '1', Link: "l"}, "")
	for _, x := range []struct {
		ahead, name, link string
		pairs             []api.Pair
	}{
		{longName(t, "one") + longName(t, "two"), "two", "l", nil},
		{longName(t, "one") + longName(t, "two") + longName(t, "three"), "three", "l", nil},
		{longName(t, "one") + longName(t, ""), "", "l", nil},
		{longName(t, "one") + longLink(t, "a") + longName(t, "two") + longLink(t, "b"), "two", "b", nil},
		{longLink(t, "a") + longLink(t, "b"), "n", "b", nil},
		{longLink(t, "a") + longLink(t, ""), "n", "", nil},
		{longLink(t, "a") + longName(t, "one"), "one", "a", nil},
		{local(t, "path", "p") + local(t, "path", "q"), "q", "l", pairs("path", "q")},
		{local(t, "path", "p") + local(t, "path", ""), "n", "l", nil},
		{local(t, "path", "") + local(t, "path", "q"), "q", "l", pairs("path", "q")},
		{local(t, "path", "p") + local(t, "linkpath", "q"), "p", "q", pairs("linkpath", "q", "path", "p")},
		{local(t, "path", "p", "path", "q", "path", "r"), "r", "l", pairs("path", "r")},
		{local(t, "path", "p") + longName(t, "one") + local(t, "path", "") + longName(t, "two"), "two", "l", nil},
		{local(t, "b", "1", "a", "2") + local(t, "a", "3", "c", "4"), "n", "l", pairs("a", "3", "b", "1", "c", "4")},
		{local(t), "n", "l", nil}, // of no pairs
	} {
		l := holding(t, x.ahead+link, []string{x.name}, len(x.ahead)+512, api.OK)
		if l[0].Entry.Link != x.link || !slices.Equal(l[0].Pairs, x.pairs) || l[0].From != 0 || l[0].Head != len(x.ahead) {
			t.Errorf("%q %q: %+v", x.name, x.link, l)
		}
	}
}

// pairs is pairs of keys and values in turn.
func pairs(said ...string) []api.Pair {
	var l []api.Pair
	for pair := range slices.Chunk(said, 2) {
		l = append(l, api.Pair{Key: pair[0], Value: pair[1]})
	}
	return l
}

// P16.1: a long name's text ends at its first zero, or with the data; what fills up is none of it.
func TestLongTexts(t *testing.T) {
	for _, form := range forms {
		for _, x := range []struct{ data, want string }{
			{"", ""},
			{"\x00", ""},
			{"\x00abc", ""},
			{"a", "a"},
			{"abc\x00", "abc"},
			{"abc\x00def\x00", "abc"},
			{"a\nb=c", "a\nb=c"},
			{"\xff\xfe", "\xff\xfe"},
			{strings.Repeat("n", 511), strings.Repeat("n", 511)},
			{strings.Repeat("n", 512), strings.Repeat("n", 512)},
			{strings.Repeat("n", 513), strings.Repeat("n", 513)},
			{strings.Repeat("n", 512) + "\x00", strings.Repeat("n", 512)},
			{strings.Repeat("n", 5000), strings.Repeat("n", 5000)},
		} {
			for _, kind := range []byte("LK") {
				b := tell(t, form, kind, x.data) + put(t, api.Header{Name: "n", Type: '2', Link: "l"}, "")
				name, link := x.want, "l"
				if kind == 'K' {
					name, link = "n", x.want
				}
				if l := holding(t, b, []string{name}, len(b), api.OK); l[0].Entry.Link != link {
					t.Errorf("%q: %+v", x.data, l)
				}
			}
		}
	}
}

// P16.1: what x, L and K tell holds for the next entry alone, of whatever type.
func TestNextAlone(t *testing.T) {
	for _, kind := range []byte("0123456759ZA") {
		one := put(t, api.Header{Name: "n", Link: "l", Type: kind}, "")
		for _, ahead := range []string{local(t, "path", "p", "linkpath", "q"), longName(t, "p") + longLink(t, "q")} {
			b := ahead + one + one + ahead + one
			l := holding(t, b, []string{"p", "n", "p"}, len(b), api.OK)
			for i, link := range []string{"q", "l", "q"} {
				if kind != '1' && kind != '2' {
					link = ""
				}
				if l[i].Entry.Link != link {
					t.Errorf("type %q: %+v", kind, l)
				}
			}
			if l[0].From != 0 || l[1].From != l[0].Next || l[2].From != l[1].Next {
				t.Errorf("type %q: %+v", kind, l)
			}
		}
	}
}

// P16.1: globals are set, set anew, taken away and stood over by locals; Globals tells them behind each step, by their keys.
func TestGlobals(t *testing.T) {
	one := put(t, api.Header{Name: "n"}, "")
	b := global(t, "z", "1", "a", "2", "path", "p") + one + // p
		global(t, "a", "3") + global(t, "b", "4") + one + // p
		local(t, "path", "q", "a", "") + one + // q
		global(t, "path", "") + one + // n
		local(t, "path", "r") + global(t, "path", "s", "z", "") + one + // r: a local stands over a global that comes later
		local(t, "path", "") + one + // n: a local takes a global away for one entry
		one + // s
		global(t, "a", "", "b", "", "path", "") + one + // n
		global(t, "late", "v")
	r := reader.New([]byte(b))
	for i, x := range []struct {
		name           string
		pairs, globals []api.Pair
	}{
		{"p", pairs("a", "2", "path", "p", "z", "1"), pairs("a", "2", "path", "p", "z", "1")},
		{"p", pairs("a", "3", "b", "4", "path", "p", "z", "1"), pairs("a", "3", "b", "4", "path", "p", "z", "1")},
		{"q", pairs("b", "4", "path", "q", "z", "1"), pairs("a", "3", "b", "4", "path", "p", "z", "1")},
		{"n", pairs("a", "3", "b", "4", "z", "1"), pairs("a", "3", "b", "4", "z", "1")},
		{"r", pairs("a", "3", "b", "4", "path", "r"), pairs("a", "3", "b", "4", "path", "s")},
		{"n", pairs("a", "3", "b", "4"), pairs("a", "3", "b", "4", "path", "s")},
		{"s", pairs("a", "3", "b", "4", "path", "s"), pairs("a", "3", "b", "4", "path", "s")},
		{"n", nil, nil},
	} {
		got, there, why := r.Next()
		if !there || why != api.OK || got.Entry.Name != x.name || !slices.Equal(got.Pairs, x.pairs) || r.At() != got.Next {
			t.Errorf("step %d: %+v %d", i, got, why)
		}
		if l := r.Globals(); !slices.Equal(l, x.globals) {
			t.Errorf("step %d: %v", i, l)
		}
	}
	for range 3 {
		_, there, why := r.Next()
		if l := r.Globals(); there || why != api.OK || r.At() != len(b) || !slices.Equal(l, pairs("late", "v")) {
			t.Errorf("the end: %t %d %v", there, why, l)
		}
	}
	held(t, b)
	held(t, b+zeros(1024))
}

// P16.1: Globals behind an error tells those of the headers ahead of it, and of none that is refused.
func TestGlobalsBehindErrors(t *testing.T) {
	ahead := global(t, "a", "1") + file(t, "f", "") + global(t, "b", "2", "a", "")
	for _, x := range []struct {
		b   string
		at  int
		why api.Errno
	}{
		{strings.Repeat("x", 512), 148, api.ErrSum},
		{"x", 1, api.ErrShort},
		{longName(t, "n"), 0, api.ErrAlone},
		{tell(t, api.Ustar, 'g', "6 c=3\n6 b=5x"), 512 + 11, api.ErrRecord},
		{tell(t, api.Ustar, 'g', "6 c=3\n")[:512], 512, api.ErrShort},
		{global(t, many(1024)...), 0, api.ErrLong}, // with b
		{local(t, "uid", "x") + file(t, "g", ""), 1024, api.ErrDigit},
	} {
		b := ahead + x.b
		r := reader.New([]byte(b))
		if _, there, why := r.Next(); !there || why != api.OK {
			t.Fatal(why)
		}
		for range 3 {
			_, there, why := r.Next()
			if l := r.Globals(); there || why != x.why || r.At() != len(ahead)+x.at || !slices.Equal(l, pairs("b", "2")) {
				t.Errorf("%q: %t %d %d %v", x.b[min(len(x.b), 512):], there, why, r.At(), l)
			}
		}
		held(t, b)
	}
}

// many is so many keys and values.
func many(n int) []string {
	var said []string
	for i := range n {
		said = append(said, fmt.Sprintf("key%04d", i), fmt.Sprint("v", i))
	}
	return said
}

// P16.2: MaxPairs pairs that are global, and one more: at once, one behind the other, with some set anew and some taken away.
func TestMaxGlobals(t *testing.T) {
	one := file(t, "f", "")
	full := many(1024)
	for _, x := range []struct {
		ahead []string
		fits  bool
		count int
	}{
		{[]string{lines(t, full...)}, true, 1024},
		{[]string{lines(t, append(full, "more", "x")...)}, false, 0},
		{[]string{lines(t, append(full, "more", "")...)}, true, 1024},
		{[]string{lines(t, append(full, full...)...)}, true, 1024},
		{[]string{lines(t, append(full, "more", "x", "key0000", "")...)}, true, 1024},
		{[]string{lines(t, full[:2046]...), lines(t, "more", "x")}, true, 1024},
		{[]string{lines(t, full...), lines(t, "more", "x")}, false, 1024},
		{[]string{lines(t, full...), lines(t, "key0007", "x")}, true, 1024},
		{[]string{lines(t, full...), lines(t, "more", "")}, true, 1024},
		{[]string{lines(t, full...), lines(t, "more", "x", "key0007", "")}, true, 1024},
		{[]string{lines(t, full...), lines(t, "key0007", ""), lines(t, "more", "x")}, true, 1024},
		{[]string{lines(t, full...), lines(t, "key0007", ""), lines(t, "more", "x", "most", "x")}, false, 1023},
	} {
		b, at := "", 0
		for _, data := range x.ahead {
			at = len(b)
			b += tell(t, api.Ustar, 'g', data)
		}
		want, names, why := at, []string(nil), api.ErrLong
		if x.fits {
			want, names, why = len(b+one), []string{"f"}, api.OK
		}
		holding(t, b+one, names, want, why)
		r := reader.New([]byte(b + one))
		r.Next()
		if n := len(r.Globals()); n != x.count {
			t.Errorf("%d are global", n)
		}
	}
}

// P16.2: MaxPairs pairs for one entry, and one more, each counted that was read: also one that is set anew, or taken away.
func TestMaxLocals(t *testing.T) {
	one := file(t, "f", "")
	full := many(1024)
	same := slices.Repeat([]string{"key", "v"}, 1024)
	gone := slices.Repeat([]string{"key", ""}, 1024)
	for _, said := range [][]string{full, same, gone} {
		for _, x := range []struct {
			rows []int // how many pairs each header has
			fits bool
		}{
			{[]int{1024}, true},
			{[]int{1023, 1}, true},
			{[]int{1, 1023}, true},
			{[]int{512, 0, 512}, true},
			{[]int{512, 513}, false},
			{[]int{1024, 1}, false},
			{[]int{1024, 0}, true},
			{[]int{1, 1, 1023}, false},
		} {
			b, at := "", 0
			for _, n := range x.rows {
				at = len(b)
				b += local(t, said[:2*n]...) + longName(t, "l")
			}
			names, place, why := []string(nil), at, api.ErrLong
			if x.fits {
				names, place, why = []string{"l"}, len(b+one), api.OK
			}
			holding(t, b+one, names, place, why)
			// The count begins anew behind each entry, and globals are not counted.
			b, ahead := b+one, global(t, full...)+local(t, full...)+one
			place += len(ahead)
			holding(t, ahead+b, append([]string{"f"}, names...), place, why)
		}
	}
	b := local(t, append(full, "more", "")...)
	holding(t, b+one, nil, 0, api.ErrLong)
}

// P16.2: the size of a header that tells of others: at MaxMeta, one more, and as great as can be; with and without data.
func TestMaxMeta(t *testing.T) {
	const most = 1 << 20
	one := file(t, "f", "")
	record := func(n int) string { // of a pair, n bytes long
		return fmt.Sprintf("%d k=%s\n", n, strings.Repeat("v", n-len(fmt.Sprintf("%d k=\n", n))))
	}
	for _, kind := range []byte("gxLK") {
		for _, size := range []int{most - 1, most, most + 1} {
			data := record(size)
			if kind == 'L' || kind == 'K' {
				data = strings.Repeat("n", size)
			}
			b := tell(t, api.GNU, kind, data)
			for _, ahead := range []string{"", one} {
				before := []string{"f"}[:btoi(ahead != "")]
				if size > most {
					holding(t, ahead+b+one, before, len(ahead), api.ErrLong)
					holding(t, ahead+b[:512], before, len(ahead), api.ErrLong)
					continue
				}
				name := "f"
				if kind == 'L' {
					name = data
				}
				holding(t, ahead+b+one, append(before, name), len(ahead+b+one), api.OK)
				holding(t, ahead+b[:len(b)-1], before, len(ahead+b)-1, api.ErrShort)
			}
		}
		for _, size := range []int64{most + 1, 1 << 21, 1 << 40, 1<<63 - 1} {
			holding(t, put(t, api.Header{Form: api.GNU, Name: "n", Type: kind, Size: size}, ""), nil, 0, api.ErrLong)
		}
		holding(t, put(t, api.Header{Form: api.GNU, Name: "n", Type: kind, Size: most}, ""), nil, 512, api.ErrShort)
	}
}

// P16.1: the size of a header that tells of others is its own, whatever pairs say.
func TestOwnSize(t *testing.T) {
	for _, kind := range []byte("gxLK") {
		data := "6 k=v\n"
		b := global(t, "size", "3") + local(t, "size", "3") + tell(t, api.Ustar, kind, data) + file(t, "f", "abc")
		name := "f"
		if kind == 'L' {
			name = data
		}
		holding(t, b, []string{name}, len(b), api.OK)
	}
}

// P16.2: of the data of g and x pax.Parse's errors, at their places.
func TestPaxErrors(t *testing.T) {
	for _, x := range []struct {
		data string
		at   int
		why  api.Errno
	}{
		{"x", 0, api.ErrLength},
		{"6 k=v\n0", 6, api.ErrLength},
		{"4 k=\n", 0, api.ErrLength},
		{"6 k=v", 5, api.ErrShort},
		{"6 k=v\n6 k", 9, api.ErrShort},
		{"6 k=v\n6", 7, api.ErrShort},
		{"6 k=vx", 5, api.ErrRecord},
		{"6 k=v\n6 k=vx", 11, api.ErrRecord},
		{"6 =kv\n", 2, api.ErrKey},
		{"6 k=v\n6 kkv\n", 8, api.ErrKey},
		{"6 k=v\n7 k=v\x00\n", 8, api.ErrKey},
		{"6 k=v\n" + zeros(3), 6, api.ErrLength},
		{strings.Repeat("6 k=v\n", 100) + "7 k=v\n", 606, api.ErrShort},
	} {
		for _, kind := range []byte("gx") {
			for _, form := range forms {
				b := tell(t, form, kind, x.data)
				for _, ahead := range []string{"", file(t, "f", "data"), file(t, "f", "data") + longLink(t, "l")} {
					names := []string{"f"}[:btoi(ahead != "")]
					holding(t, ahead+b, names, len(ahead)+512+x.at, x.why)
					holding(t, ahead+b+file(t, "g", ""), names, len(ahead)+512+x.at, x.why)
					holding(t, ahead+b[:len(b)-1], names, len(ahead+b)-1, api.ErrShort) // ahead of that
				}
			}
		}
		b := tell(t, api.Ustar, 'L', x.data) + file(t, "f", "") // whose data are no pairs
		name, _, _ := strings.Cut(x.data, "\x00")
		holding(t, b, []string{name}, len(b), api.OK)
	}
	// It is found ahead of too many pairs.
	b := local(t, append(many(1024), "more", "x")...)
	size := len(lines(t, append(many(1024), "more", "x")...))
	broken := b[:512+size-1] + "x" + b[512+size:]
	holding(t, broken, nil, 512+size-1, api.ErrRecord)
	holding(t, b, nil, 0, api.ErrLong)
}
