package reader_test

import (
	"fmt"
	"slices"
	"strings"
	"testing"

	"satchel/api"
	"satchel/field"
	"satchel/reader"
	"satchel/sparse"
)

// ranges is the ranges of these numbers, taken two by two.
func ranges(n ...int64) []api.Range {
	var l []api.Range
	for pair := range slices.Chunk(n, 2) {
		l = append(l, api.Range{From: pair[0], To: pair[1]})
	}
	return l
}

// apart is so many ranges of a byte each, with a place between.
func apart(n int) []api.Range {
	var l []api.Range
	for i := range int64(n) {
		l = append(l, api.Range{From: 2 * i, To: 2*i + 1})
	}
	return l
}

// oldWay is a file with holes of the type S, with a map that need not be right.
func oldWay(t *testing.T, name string, l []api.Range, whole int64, data string) string {
	t.Helper()
	return oldSized(t, name, l, whole, int64(len(data)), data)
}

// oldSized is oldWay's, with a size of its own in the header.
func oldSized(t *testing.T, name string, l []api.Range, whole, size int64, data string) string {
	t.Helper()
	first := [512]byte([]byte(record(t, api.Header{Form: api.GNU, Name: name, Mode: 0o644, Type: 'S', Size: size})))
	n := min(len(l), 4)
	slots(t, first[386:], l[:n])
	first[482] = byte(btoi(len(l) > 4)) * 7
	copy(first[483:], twelve(t, whole))
	first = field.PutSum(first)
	b := first[:]
	for l = l[n:]; len(l) > 0; l = l[n:] {
		var more [512]byte
		n = min(len(l), 21)
		slots(t, more[:], l[:n])
		more[504] = byte(btoi(len(l) > 21))
		b = append(b, more[:]...)
	}
	return string(b) + filled(data)
}

func slots(t *testing.T, b []byte, l []api.Range) {
	t.Helper()
	for i, x := range l {
		copy(b[24*i:], twelve(t, x.From)+twelve(t, x.To-x.From))
	}
}

func twelve(t *testing.T, n int64) string {
	t.Helper()
	b, why := field.PutNumber(n, 12)
	if why != api.OK {
		t.Fatal(n, why)
	}
	return string(b)
}

// mapText is a map's text, which need not be right.
func mapText(l []api.Range) string {
	s := fmt.Sprintln(len(l))
	for _, x := range l {
		s += fmt.Sprintln(x.From) + fmt.Sprintln(x.To-x.From)
	}
	return s + zeros((512-len(s)%512)%512)
}

// newWay is a file with holes whose data begin with a map, of the header's form and type.
func newWay(t *testing.T, h api.Header, l []api.Range, whole int64, data string) string {
	t.Helper()
	said := []string{"GNU.sparse.major", "1", "GNU.sparse.minor", "0", "GNU.sparse.name", "holed", "GNU.sparse.realsize", fmt.Sprint(whole)}
	return local(t, said...) + put(t, h, mapText(l)+data)
}

// P16.1: files with holes of the type S: with none, one and several further records; their places, maps and bytes.
func TestOldWay(t *testing.T) {
	for _, n := range []int{0, 1, 3, 4, 5, 6, 24, 25, 26, 46, 47, 100} {
		l := apart(n)
		data := strings.Repeat("ab", n)[:n]
		for _, whole := range []int64{int64(2*n) - int64(btoi(n > 0)), int64(2*n) + 1000} {
			b := oldWay(t, "holed", l, whole, data)
			further := 0
			if n > 4 {
				further = (n - 4 + 20) / 21
			}
			want := api.Item{
				Entry: api.Entry{Name: "holed", Kind: api.File, Meta: api.Meta{Mode: 0o644}, Size: whole},
				Form:  api.GNU, Type: 'S', Data: 512 + 512*further, Next: len(b), Held: int64(n), Sparse: true, Map: l,
			}
			for _, behind := range []string{"", zeros(1024), file(t, "behind", "x")} {
				got, _, why := held(t, b+behind)
				if why != api.OK || len(got) == 0 || !sameItem(got[0], want) {
					t.Fatalf("%d ranges: %+v %d, not %+v", n, got, why, want)
				}
			}
			content, _ := sparse.Spread([]byte(data), l, whole)
			if out, why := heldContent(t, b, want); out != string(content) || why != api.OK || int64(len(out)) != whole {
				t.Fatalf("%d ranges: %q %d", n, out, why)
			}
		}
	}
}

// P16.1: files with holes whose data begin with a map: of both types, in each form; their places, maps and bytes.
func TestNewWay(t *testing.T) {
	for _, form := range forms {
		for _, kind := range []byte("07") {
			for _, n := range []int{0, 1, 4, 5, 100, 300} {
				l := apart(n)
				data := strings.Repeat("ab", n)[:n]
				whole := int64(2*n) + 7
				b := newWay(t, api.Header{Form: form, Name: "header", Type: kind}, l, whole, data)
				got := holding(t, b+file(t, "behind", "x"), []string{"holed", "behind"}, len(b)+1024, api.OK)
				x := got[0]
				if x.From != 0 || x.Head != 1024 || x.Data != 1536 || x.Next != len(b) || x.Held != int64(len(mapText(l))+n) {
					t.Fatalf("%d ranges: %+v", n, x)
				}
				if !x.Sparse || !slices.Equal(x.Map, l) || x.Entry.Size != whole || x.Entry.Kind != api.File || x.Type != kind || x.Form != form {
					t.Fatalf("%d ranges: %+v", n, x)
				}
				content, _ := sparse.Spread([]byte(data), l, whole)
				if out, why := heldContent(t, b, x); out != string(content) || why != api.OK {
					t.Fatalf("%d ranges: %q %d", n, out, why)
				}
				if got[1].Sparse || len(got[1].Map) != 0 {
					t.Fatalf("behind: %+v", got[1])
				}
			}
		}
	}
}

// P16.1: maps with empty ranges, with ranges that touch, and of whole sizes that are just theirs.
func TestMaps(t *testing.T) {
	for _, x := range []struct {
		l     []api.Range
		whole int64
	}{
		{nil, 0},
		{nil, 1},
		{nil, 1<<63 - 1},
		{ranges(0, 3), 3},
		{ranges(0, 3), 4},
		{ranges(1, 4), 4},
		{ranges(1, 2, 2, 4), 4},
		{ranges(1, 2, 2, 2, 2, 4, 9, 9), 9},
		{ranges(5, 5), 5},
		{ranges(5, 5, 5, 5, 5, 5, 5, 5, 5, 5), 5},
		{ranges(1<<63-2, 1<<63-1), 1<<63 - 1},
		{ranges(1<<63-1, 1<<63-1), 1<<63 - 1},
		{ranges(0, 3, 1<<40, 1<<40+512), 1 << 41},
	} {
		data := strings.Repeat("d", int(places(x.l).Int64()))
		for _, b := range []string{oldWay(t, "holed", x.l, x.whole, data), newWay(t, api.Header{Name: "n"}, x.l, x.whole, data)} {
			l := holding(t, b, []string{"holed"}, len(b), api.OK)
			if !l[0].Sparse || !slices.Equal(l[0].Map, x.l) || l[0].Entry.Size != x.whole {
				t.Errorf("%v of %d: %+v", x.l, x.whole, l)
			}
		}
	}
}

// P16.2: maps that are not of the whole size, or not of the data: ErrSparse at the header, at the first one and at a later one.
func TestNotOfTheFile(t *testing.T) {
	for _, x := range []struct {
		l     []api.Range
		whole int64
		data  string
	}{
		{ranges(0, 3), 2, "abc"},
		{ranges(0, 3), 0, "abc"},
		{ranges(3, 3), 2, ""},
		{ranges(0, 1, 5, 7), 6, "abc"},
		{ranges(0, 1<<63-1), 1<<63 - 1, ""},
		{ranges(0, 1<<63-1), 1<<63 - 1, "a"},
		{ranges(0, 3), 3, "ab"},
		{ranges(0, 3), 3, "abcd"},
		{ranges(0, 3), 3, ""},
		{nil, 3, "a"},
		{nil, 0, "a"},
		{ranges(0, 0), 3, "a"},
		{apart(5), 9, "abcd"},
		{apart(5), 9, "abcdef"},
		{apart(5), 8, "abcde"},
		{apart(30), 59, strings.Repeat("d", 31)},
		{ranges(0, 3), 3, strings.Repeat("d", 513)},
	} {
		for _, b := range []string{oldWay(t, "holed", x.l, x.whole, x.data), newWay(t, api.Header{Name: "n"}, x.l, x.whole, x.data)} {
			head := 1024 * btoi(b[156] == 'x')
			holding(t, b, nil, head, api.ErrSparse)
			holding(t, file(t, "f", "f")+b+file(t, "g", ""), []string{"f"}, 1024+head, api.ErrSparse)
		}
	}
	// Of the type S alone: ranges that fall or overlap, which a map's text can't tell; and more than can be counted.
	for _, l := range [][]api.Range{
		ranges(5, 6, 0, 2),
		ranges(0, 2, 1, 2),
		ranges(0, 2, 0, 1),
		ranges(5, 7, 5, 5, 0, 1),
		append(apart(5), api.Range{From: 1, To: 2}),
		append(apart(30), api.Range{From: 0, To: 1}),
		ranges(0, 1<<63-1, 0, 1<<63-1, 0, 4),
		ranges(0, 1<<63-1, 0, 1<<63-1, 0, 1<<63-1, 0, 1<<63-1, 0, 1<<63-1, 0, 1<<63-1, 0, 9),
	} {
		data := strings.Repeat("d", int(places(l).Int64()&0xff))
		b := oldWay(t, "holed", l, 100, data)
		holding(t, b, nil, 0, api.ErrSparse)
		b = oldWay(t, "holed", l, 1<<63-1, data)
		holding(t, file(t, "f", "f")+b, []string{"f"}, 1024, api.ErrSparse)
	}
}

// P16.1, P16.2: a map of MaxRanges ranges, and of one more.
func TestMaxRanges(t *testing.T) {
	const most = 65536
	full := apart(most + 1)
	data := strings.Repeat("d", most+1)
	for n, why := range map[int]api.Errno{most: api.OK, most + 1: api.ErrSparse} {
		b := oldWay(t, "holed", full[:n], 2*most+9, data[:n])
		at := len(b) * btoi(why == api.OK)
		if l, place, err := reader.Read([]byte(b)); err != why || place != at || why == api.OK && len(l[0].Map) != n {
			t.Errorf("%d ranges: %d %d", n, place, err)
		}
	}
	for n, why := range map[int]api.Errno{most: api.OK, most + 1: api.ErrLong} {
		var s strings.Builder
		fmt.Fprintln(&s, n)
		for _, x := range full[:n] {
			fmt.Fprintf(&s, "%d\n1\n", x.From)
		}
		text := s.String() + zeros((512-s.Len()%512)%512)
		said := []string{"GNU.sparse.major", "1", "GNU.sparse.minor", "0", "GNU.sparse.realsize", "131081"}
		b := local(t, said...) + put(t, api.Header{Name: "n"}, text+data[:n])
		at := 1536
		if why == api.OK {
			at = len(b)
		}
		if l, place, err := reader.Read([]byte(b)); err != why || place != at || why == api.OK && len(l[0].Map) != n {
			t.Errorf("%d ranges: %d %d", n, place, err)
		}
	}
}

// P16.1: what is no file with holes: S in another form; other numbers of the way; other kinds; pairs for a file of the type S.
func TestNoHoles(t *testing.T) {
	way := func(said ...string) string {
		return local(t, append([]string{"GNU.sparse.realsize", "9", "GNU.sparse.name", "holed"}, said...)...)
	}
	plain := put(t, api.Header{Name: "n"}, mapText(ranges(0, 3))+"abc")
	right := []string{"GNU.sparse.major", "1", "GNU.sparse.minor", "0"}
	for _, said := range [][]string{
		{},
		right[:2],
		right[2:],
		{"GNU.sparse.major", "1", "GNU.sparse.minor", "1"},
		{"GNU.sparse.major", "0", "GNU.sparse.minor", "0"},
		{"GNU.sparse.major", "0", "GNU.sparse.minor", "1"},
		{"GNU.sparse.major", "01", "GNU.sparse.minor", "0"},
		{"GNU.sparse.major", "1", "GNU.sparse.minor", "00"},
		{"GNU.sparse.major", "1 ", "GNU.sparse.minor", "0"},
		{"GNU.sparse.major", "1", "GNU.sparse.minor", "0", "GNU.sparse.minor", ""},
		{"GNU.Sparse.major", "1", "GNU.sparse.minor", "0"},
	} {
		b := way(said...) + plain
		if l := holding(t, b, []string{"n"}, len(b), api.OK); l[0].Sparse || l[0].Entry.Size != 515 || l[0].Held != 515 || len(l[0].Map) != 0 {
			t.Errorf("%q: %+v", said, l)
		}
	}
	for _, kind := range []byte("123456AVSZ") {
		b := way(right...) + put(t, api.Header{Name: "n", Type: kind}, mapText(ranges(0, 3))+"abc")
		if kind >= '1' && kind <= '6' {
			b = b[:1536]
		}
		if l := holding(t, b, []string{"n"}, len(b), api.OK); l[0].Sparse || l[0].Entry.Size != 0 || len(l[0].Map) != 0 {
			t.Errorf("type %q: %+v", kind, l)
		}
	}
	// A name that ends with a slash is a directory's, whatever GNU.sparse.name says.
	b := way(right...) + put(t, api.Header{Name: "n/"}, mapText(ranges(0, 3))+"abc")
	if l := holding(t, b, []string{"n/"}, len(b), api.OK); l[0].Sparse || l[0].Entry.Kind != api.Dir {
		t.Errorf("%+v", l)
	}
	for _, form := range []int{api.V7, api.Ustar} {
		b := put(t, api.Header{Form: form, Name: "n", Type: 'S'}, "abc")
		if l := holding(t, b, []string{"n"}, len(b), api.OK); l[0].Sparse || l[0].Entry.Kind != api.Device || l[0].Entry.Type != 'S' || l[0].Held != 3 {
			t.Errorf("form %d: %+v", form, l)
		}
	}
	b = way(right...) + oldWay(t, "old", ranges(0, 3), 9, "abc")
	if l := holding(t, b, []string{"old"}, len(b), api.OK); !l[0].Sparse || l[0].Entry.Size != 9 || l[0].Held != 3 {
		t.Errorf("%+v", l)
	}
}

// P16.1: the pairs of a file with holes may be global; its name is GNU.sparse.name ahead of all others, if that is there, and stays a file's with a slash.
func TestHoledNames(t *testing.T) {
	way := []string{"GNU.sparse.major", "1", "GNU.sparse.minor", "0", "GNU.sparse.realsize", "9"}
	plain := put(t, api.Header{Name: "header"}, mapText(ranges(0, 3))+"abc")
	for _, x := range []struct{ ahead, name string }{
		{local(t, way...), "header"},
		{global(t, way...), "header"},
		{global(t, way[:2]...) + local(t, way[2:]...), "header"},
		{global(t, "GNU.sparse.major", "0") + local(t, way...), "header"},
		{local(t, way...) + longName(t, "long"), "long"},
		{local(t, append(way, "path", "p")...), "p"},
		{local(t, append(way, "GNU.sparse.name", "holed")...), "holed"},
		{local(t, append(way, "GNU.sparse.name", "holed", "path", "p")...) + longName(t, "long"), "holed"},
		{local(t, append(way, "GNU.sparse.name", "holed/")...), "holed/"},
		{global(t, "GNU.sparse.name", "holed") + local(t, way...), "holed"},
		{global(t, "GNU.sparse.name", "holed") + local(t, append(way, "GNU.sparse.name", "")...), "header"},
	} {
		b := x.ahead + plain
		l := holding(t, b, []string{x.name}, len(b), api.OK)
		if y := l[0]; !y.Sparse || y.Entry.Kind != api.File || y.Entry.Size != 9 || y.Held != 515 {
			t.Errorf("%q: %+v", x.name, l)
		}
		if out, why := heldContent(t, b, l[0]); out != "abc"+zeros(6) || why != api.OK {
			t.Errorf("%q: %q %d", x.name, out, why)
		}
	}
	// Of the type S a name with a slash is a file's, too; its size may be told by a pair.
	b := local(t, "size", "3", "path", "d/") + oldSized(t, "old", ranges(0, 3), 9, 77, "abc")
	if l := holding(t, b, []string{"d/"}, len(b), api.OK); l[0].Entry.Kind != api.File || l[0].Entry.Size != 9 || l[0].Held != 3 {
		t.Errorf("%+v", l)
	}
}
