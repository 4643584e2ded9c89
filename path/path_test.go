package path_test

import (
	"math"
	"slices"
	"strings"
	"testing"

	"satchel/api"
	"satchel/path"
)

var (
	a255 = strings.Repeat("a", 255)
	a256 = strings.Repeat("a", 256)
)

// P9.1, P9.2: the chapter's examples.
func TestSplitExamples(t *testing.T) {
	for _, x := range []struct {
		name, parts string
		why         api.Errno
	}{
		{"a//b/./c/", "a,b,c", api.OK},
		{"", "", api.ErrEmpty},
		{".", "", api.ErrEmpty},
		{"/a", "", api.ErrAbsolute},
		{"a/../b", "", api.ErrDots},
		{"a\x00", "", api.ErrZero},
		{"..a", "..a", api.OK},
		{a256, "", api.ErrName},
	} {
		if parts, why := path.Split(x.name); strings.Join(parts, ",") != x.parts || why != x.why {
			t.Errorf("Split(%.20q): %q %d", x.name, parts, why)
		}
		if name, why := path.Clean(x.name); name != strings.ReplaceAll(x.parts, ",", "/") || why != x.why {
			t.Errorf("Clean(%.20q): %q %d", x.name, name, why)
		}
		heldName(t, x.name)
	}
}

// P9.3, P9.4, P9.5: the chapter's examples.
func TestOtherExamples(t *testing.T) {
	if x := path.Compare([]string{"a", "b"}, []string{"a.b"}); x != -1 {
		t.Errorf("Compare: %d", x)
	}
	if !path.Under([]string{"a", "b"}, []string{"a"}) || path.Under([]string{"a"}, []string{"a"}) {
		t.Error("Under")
	}
	for target, want := range map[string]bool{"../../c": false, "../../../c": true, "c/../../../../d": true, "/x": true} {
		if path.Leaves([]string{"a", "b"}, target) != want {
			t.Errorf("Leaves of %s: %t", target, !want)
		}
	}
	if path.Leaves([]string{}, ".") {
		t.Error("the top leaves")
	}
	if parts, ok := path.Strip([]string{"a", "b", "c"}, 1); !ok || !slices.Equal(parts, []string{"b", "c"}) {
		t.Errorf("Strip: %q %t", parts, ok)
	}
	if parts, ok := path.Strip([]string{"a"}, 1); ok || parts != nil {
		t.Errorf("Strip of all: %q %t", parts, ok)
	}
	for _, x := range []struct {
		dir, parts, want []string
		why              api.Errno
	}{
		{[]string{}, []string{"a"}, []string{"a"}, api.OK},
		{[]string{}, []string{}, nil, api.ErrEmpty},
		{[]string{".."}, []string{"a"}, nil, api.ErrDots},
	} {
		if got, why := path.Place(x.dir, x.parts); !slices.Equal(got, x.want) || why != x.why {
			t.Errorf("Place(%q, %q): %q %d", x.dir, x.parts, got, why)
		}
	}
}

// P9.1, P9.2, P9.6, P9.7: all names of up to eight bytes of those that mean something.
func TestShortNames(t *testing.T) {
	t.Parallel()
	seen := make(map[api.Errno]int)
	for _, list := range upTo([]string{"a", ".", "/", "\x00"}, 8) {
		seen[heldName(t, strings.Join(list, ""))]++
	}
	for _, why := range []api.Errno{api.OK, api.ErrZero, api.ErrAbsolute, api.ErrDots, api.ErrEmpty} {
		if seen[why] == 0 {
			t.Errorf("no name with %d", why)
		}
	}
}

// P9.1: pieces that are, or look like, dots and nothing, at each place of a name.
func TestPieces(t *testing.T) {
	t.Parallel()
	pieces := []string{"", ".", "..", "...", "....", "..a", "a..", ".a", "a.", "a.b", ". ", " ..", "\xff", "\\", "a"}
	for _, list := range upTo(pieces, 4) {
		heldName(t, strings.Join(list, "/"))
	}
	for _, piece := range []string{"...", "..a", "a..", ".a", "a."} {
		for _, name := range []string{piece, piece + "/x/y", "x/" + piece + "/y", "x/y/" + piece} {
			if why := heldName(t, name); why != api.OK {
				t.Errorf("Split(%q): %d", name, why)
			}
		}
	}
	for _, name := range []string{"..", "../x/y", "x/../y", "x/y/..", "../", "x/../", "./.."} {
		if why := heldName(t, name); why != api.ErrDots {
			t.Errorf("Split(%q): %d", name, why)
		}
	}
}

// P9.1: as long as a name may be, and longer, whatever it is made of.
func TestLongNames(t *testing.T) {
	sixteen := strings.Repeat(a255+"/", 16)
	for _, x := range []struct {
		name string
		why  api.Errno
	}{
		{"a", api.OK},
		{sixteen, api.OK},
		{sixteen[:4095], api.OK},
		{sixteen + "/", api.ErrLong},
		{sixteen + ".", api.ErrLong},
		{"a" + strings.Repeat("/", 4095), api.OK},
		{"a" + strings.Repeat("/", 4096), api.ErrLong},
		{strings.Repeat("./", 2047) + "a", api.OK},
		{strings.Repeat("./", 2047) + "./", api.ErrEmpty},
		{strings.Repeat("./", 2048) + "a", api.ErrLong},
		{strings.Repeat("./", 2048), api.ErrEmpty},
		{strings.Repeat("/", 4096), api.ErrAbsolute},
		{strings.Repeat("/", 4097), api.ErrLong},
		{strings.Repeat("\x00", 4096), api.ErrZero},
		{strings.Repeat("\x00", 4097), api.ErrLong},
		{strings.Repeat("a", 4096), api.ErrName},
		{strings.Repeat("a", 4097), api.ErrLong},
		{strings.Repeat("../", 1365) + "a", api.ErrDots},
		{strings.Repeat("../", 1365) + "aa", api.ErrLong},
		{strings.Repeat("a/", 1<<20), api.ErrLong},
	} {
		if _, why := path.Split(x.name); why != x.why {
			t.Errorf("Split(%.20q), %d bytes: %d, not %d", x.name, len(x.name), why, x.why)
		}
		if len(x.name) < 5000 {
			heldName(t, x.name)
		}
	}
}

// P9.1: components as long as they may be, and longer, at each place and beside what is none.
func TestLongComponents(t *testing.T) {
	for _, beside := range upTo([]string{"", ".", "b", "..."}, 3) {
		for at := range len(beside) + 1 {
			name := strings.Join(slices.Insert(slices.Clone(beside), at, a255), "/")
			long := strings.Join(slices.Insert(slices.Clone(beside), at, a256), "/")
			want, wantLong := api.OK, api.ErrName
			if name[0] == '/' {
				want, wantLong = api.ErrAbsolute, api.ErrAbsolute
			}
			if why := heldName(t, name); why != want {
				t.Errorf("255 bytes at %d of %q: %d", at, beside, why)
			}
			if why := heldName(t, long); why != wantLong {
				t.Errorf("256 bytes at %d of %q: %d", at, beside, why)
			}
		}
	}
	for _, long := range []string{strings.Repeat(".", 255), strings.Repeat(".", 256), a255 + ".", a255 + "\xff", strings.Repeat("é", 128)} {
		heldName(t, long)
	}
}

// P9.1: as many components as there may be, and one more; pieces that are none do not count.
func TestManyComponents(t *testing.T) {
	for n, want := range map[int]api.Errno{255: api.OK, 256: api.OK, 257: api.ErrDeep, 258: api.ErrDeep, 512: api.ErrDeep} {
		name := strings.Join(times("a", n), "/")
		for _, x := range []string{name, name + "/", name + "//", "./" + name, name + "/.", strings.ReplaceAll(name, "/", "//"), strings.ReplaceAll(name, "/", "/./")} {
			if why := heldName(t, x); why != want {
				t.Errorf("%d components, %.20q: %d", n, x, why)
			}
		}
		heldName(t, name+"/..")
		heldName(t, name+"/"+a256)
		heldName(t, a256+"/"+name)
		heldName(t, "/"+name)
		heldName(t, name+"\x00")
	}
}

// P9.1: of several errors the first one in the promise's order, wherever in the name they are.
func TestSplitOrder(t *testing.T) {
	faults := []struct {
		piece string
		why   api.Errno
	}{
		{"x\x00x", api.ErrZero},
		{"..", api.ErrDots},
		{a256, api.ErrName},
		{strings.Join(times("a", 257), "/"), api.ErrDeep},
	}
	for set := range 1 << (len(faults) + 2) {
		var pieces []string
		want := api.ErrEmpty
		for i := len(faults) - 1; i >= 0; i-- {
			if set>>i&1 == 1 {
				pieces = append(pieces, faults[i].piece)
				want = faults[i].why
			}
		}
		for _, order := range orders(pieces) {
			name, want := strings.Join(order, "/"), want
			if set>>len(faults)&1 == 1 {
				name = "/" + name
				if want != api.ErrZero {
					want = api.ErrAbsolute
				}
			}
			if set>>len(faults)&2 == 2 {
				name += strings.Repeat("/", 4097)
				want = api.ErrLong
			}
			if why := heldName(t, name); why != want {
				t.Errorf("Split(%.90q): %d, not %d", name, why, want)
			}
		}
	}
}

// P9.1: a byte 0 at the first and at the last place, alone and beside each of the other faults.
func TestZeros(t *testing.T) {
	for _, name := range []string{"", ".", "..", "/", "a", "/a", "a/..", "../a", "a/", a256, strings.Repeat("a/", 257), strings.Repeat("a", 4094), strings.Repeat("a", 4095)} {
		for _, x := range []string{"\x00" + name, name + "\x00", "\x00/" + name, name + "/\x00"} {
			want := api.ErrZero
			if len(x) > 4096 {
				want = api.ErrLong
			}
			if why := heldName(t, x); why != want {
				t.Errorf("Split(%.20q): %d", x, why)
			}
		}
	}
}

// orders are all orders of a list.
func orders(list []string) [][]string {
	if len(list) == 0 {
		return [][]string{nil}
	}
	var all [][]string
	for i := range list {
		for _, rest := range orders(slices.Concat(list[:i], list[i+1:])) {
			all = append(all, append([]string{list[i]}, rest...))
		}
	}
	return all
}

// odd are parts of which each has other faults, or none.
var odd = []string{
	"a", "", ".", "..", "...", "..a", "a..", "/", "//", "a/b", "/a", "a/", "\x00", "a\x00", "\x00/", "/\x00", "..\x00", "../", "./", ".\x00",
	a255, a256, a255 + "\x00", a255 + "/", a255 + "/\x00", strings.Repeat(".", 256), "\xff",
}

// P9.2: no parts, and all lists of up to three odd ones; P9.4: they behind a directory.
func TestJoinOdd(t *testing.T) {
	t.Parallel()
	if why := heldParts(t, nil); why != api.ErrEmpty {
		t.Errorf("no parts: %d", why)
	}
	for _, parts := range upTo(odd, 3) {
		heldParts(t, parts)
		for n := range len(parts) + 1 {
			heldPlace(t, parts[:n], parts[n:])
		}
	}
}

// P9.2: the faults of one part come in their order, and those of a part ahead of those of the next one.
func TestJoinOrder(t *testing.T) {
	for _, x := range []struct {
		part string
		why  api.Errno
	}{
		{"", api.ErrEmpty},
		{".", api.ErrEmpty},
		{"..", api.ErrDots},
		{"\x00/" + a256, api.ErrZero},
		{"/\x00", api.ErrZero},
		{"..\x00", api.ErrZero},
		{"/" + a256, api.ErrAbsolute},
		{"../a", api.ErrAbsolute},
		{"/", api.ErrAbsolute},
		{a256, api.ErrName},
	} {
		for _, behind := range upTo([]string{"a", "", "..", "\x00", "/", a256}, 2) {
			for _, many := range []int{0, 1, 255, 300} {
				parts := slices.Concat(times("b", many), []string{x.part}, behind)
				if why := heldParts(t, parts); why != x.why {
					t.Errorf("Join of %q behind %d, ahead of %.90q: %d, not %d", x.part, many, behind, why, x.why)
				}
				if why := heldPlace(t, parts[:many], parts[many:]); why != x.why {
					t.Errorf("Place of %q behind %d: %d, not %d", x.part, many, why, x.why)
				}
			}
		}
	}
}

// P9.2, P9.4: as many parts, and as many bytes, as a name may have, and one more.
func TestJoinLimits(t *testing.T) {
	sixteen := times(a255, 16)
	for _, x := range []struct {
		parts []string
		why   api.Errno
	}{
		{times("a", 255), api.OK},
		{times("a", 256), api.OK},
		{times("a", 257), api.ErrDeep},
		{times(a255, 257), api.ErrDeep},
		{times(a255, 256), api.ErrLong},
		{sixteen, api.OK}, // 4095 bytes
		{append(sixteen[:15:15], strings.Repeat("a", 254), "b"), api.OK},
		{append(sixteen[:15:15], strings.Repeat("a", 254), "bb"), api.ErrLong},
		{append(sixteen[:16:16], "b"), api.ErrLong},
		{append(times(a255, 257), ".."), api.ErrDots},
		{append(times(a255, 256), a256), api.ErrName},
		{times(strings.Repeat("a", 16), 241), api.OK},                              // 4096 bytes
		{append(times(strings.Repeat("a", 16), 240), a255[:17]), api.ErrLong},      // 4097
		{append(times(strings.Repeat("a", 15), 255), a255[:16]), api.OK},           // 256 parts, 4096 bytes
		{append(times(strings.Repeat("a", 15), 255), a255[:17]), api.ErrLong},      // 256 parts, 4097
		{append(times(strings.Repeat("a", 15), 255), a255[:17], "a"), api.ErrDeep}, // one part more
		{append(times(strings.Repeat("a", 15), 255), a255[:17], ""), api.ErrEmpty}, // and an odd one
		{append(times(strings.Repeat("a", 15), 255), a255[:17], "/"), api.ErrAbsolute},
		{times("a", 1<<16), api.ErrDeep},
	} {
		if len(x.parts) < 1000 {
			heldParts(t, x.parts)
		}
		if name, why := path.Join(x.parts); why != x.why || (why == api.OK) != (name != "") {
			t.Errorf("Join of %d parts, %d bytes: %d, not %d", len(x.parts), len(strings.Join(x.parts, "/")), why, x.why)
		}
		for _, n := range []int{0, 1, len(x.parts) / 2, len(x.parts) - 1, len(x.parts)} {
			if parts, why := path.Place(x.parts[:n], x.parts[n:]); why != x.why || why == api.OK && !slices.Equal(parts, x.parts) {
				t.Errorf("Place of %d parts behind %d: %d, not %d", len(x.parts)-n, n, why, x.why)
			}
			if len(x.parts) < 1000 {
				heldPlace(t, x.parts[:n], x.parts[n:])
			}
		}
	}
}

// P9.6, P9.7: two names with the same components have one Clean, and others have not.
func TestOneForm(t *testing.T) {
	t.Parallel()
	forms := make(map[string][]string)
	for _, list := range upTo([]string{"a", "b", "..a", "", "."}, 5) {
		name := strings.Join(list, "/")
		one, why := path.Clean(name)
		if why != api.OK {
			continue
		}
		parts := modelComponents(name)
		if there, ok := forms[one]; ok && !slices.Equal(there, parts) {
			t.Errorf("%q and %q have one form, %q", there, parts, one)
		}
		forms[one] = parts
		if one != strings.Join(parts, "/") {
			t.Errorf("Clean(%q): %q", name, one)
		}
	}
}

// P9.4: Strip of as many as there are, one more, one less, none, and below.
func TestStrip(t *testing.T) {
	for _, parts := range [][]string{nil, {}, {"a"}, {"a", "b"}, {"", "..", "a/b", "\x00"}, times("a", 300)} {
		for _, n := range []int{math.MinInt, -1, 0, 1, 2, len(parts) - 1, len(parts), len(parts) + 1, math.MaxInt} {
			took := heldStrip(t, parts, n)
			if took != (0 <= n && n < len(parts)) {
				t.Errorf("Strip of %d of %d: %t", n, len(parts), took)
			}
		}
	}
}

// P9.4: a directory at the top and below, and what lies there.
func TestPlace(t *testing.T) {
	for _, dir := range upTo([]string{"a", "b.c"}, 3) {
		for _, parts := range upTo([]string{"d", "..e"}, 3) {
			want := api.OK
			if len(dir)+len(parts) == 0 {
				want = api.ErrEmpty
			}
			if why := heldPlace(t, dir, parts); why != want {
				t.Errorf("Place(%q, %q): %d", dir, parts, why)
			}
		}
	}
}

// P9.4: the two lists may be one, or pieces of one.
func TestPlaceOfOneList(t *testing.T) {
	list := []string{"a", "b", "c", "d"}
	got, why := path.Place(list[:2], list)
	if want := []string{"a", "b", "a", "b", "c", "d"}; !slices.Equal(got, want) || why != api.OK {
		t.Errorf("%q %d", got, why)
	}
	spoil(got)
	got, why = path.Place(list[1:3], list[:1])
	if want := []string{"b", "c", "a"}; !slices.Equal(got, want) || why != api.OK {
		t.Errorf("%q %d", got, why)
	}
	spoil(got)
	if !slices.Equal(list, []string{"a", "b", "c", "d"}) {
		t.Errorf("changed: %q", list)
	}
}
