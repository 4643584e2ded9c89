package pack_test

import (
	"slices"
	"strings"
	"testing"

	"satchel/api"
	"satchel/pack"
	"satchel/vfs"
)

func wide(n int) string { return strings.Repeat("w", n) }

// chain makes directories within one another, of those names: the last one.
func chain(f *vfs.FS, dir int, names ...string) int {
	for _, name := range names {
		node, why := f.Lookup(dir, name)
		if why != api.OK {
			node, _ = f.Mkdir(dir, name, api.Meta{Mode: 1})
		}
		dir = node
	}
	return dir
}

// deep is so many names of one byte behind a first one.
func deep(first string, n int) []string {
	return append([]string{first}, slices.Repeat([]string{"d"}, n-1)...)
}

// long is names that, with the first one ahead and slashes between, have so many bytes, from 3841 to 4100.
func long(first string, n int) []string {
	names := []string{first + wide(255-len(first))}
	names = append(names, slices.Repeat([]string{wide(255)}, 14)...) // 3839 bytes
	if n -= 3839; n <= 256 {
		return append(names, wide(n-1))
	}
	return append(names, wide(100), wide(n-102))
}

// P21.1 to P21.3: names of just as many components, and of just as many bytes, as a name may have; and of one more.
func TestBounds(t *testing.T) {
	t.Parallel()
	for _, x := range []struct {
		parts []string
		why   api.Errno
	}{
		{deep("a", 255), api.OK},
		{deep("a", 256), api.OK},
		{deep("a", 257), api.ErrDeep},
		{deep("a", 258), api.ErrDeep},
		{deep(wide(255), 256), api.OK},
		{long("a", 4095), api.OK},
		{long("a", 4096), api.OK},
		{long("a", 4097), api.ErrLong},
		{long("a", 4100), api.ErrLong},
		{slices.Repeat([]string{wide(15)}, 256), api.OK},                                         // 4095 bytes
		{append(slices.Repeat([]string{wide(15)}, 255), wide(16)), api.OK},                       // 4096
		{append(slices.Repeat([]string{wide(15)}, 255), wide(17)), api.ErrLong},                  // 4097
		{append(slices.Repeat([]string{wide(15)}, 256), wide(16)), api.ErrDeep},                  // both
		{append(slices.Repeat([]string{wide(15)}, 256), wide(255)), api.ErrDeep},                 // both
		{append(slices.Repeat([]string{wide(14)}, 254), wide(255), wide(255)), api.ErrLong},      // both are to come, and the length is met first
		{append(slices.Repeat([]string{wide(14)}, 255), wide(255), "a"), api.ErrDeep},            // 4080 and 256 components, and then one more
		{append(slices.Repeat([]string{wide(14)}, 255), wide(255), "a", wide(255)), api.ErrDeep}, // and what lies there
	} {
		for _, kind := range []int{api.Dir, api.File, api.Symlink, api.HardLink} {
			f, _ := vfs.New(api.MaxNodes, 9)
			last := len(x.parts) - 1
			dir := chain(f, 1, x.parts[:last]...)
			name := x.parts[last]
			switch kind {
			case api.Dir:
				f.Mkdir(dir, name, api.Meta{})
			case api.File:
				f.Create(dir, name, api.Meta{})
			case api.Symlink:
				f.Symlink(dir, name, "t", api.Meta{})
			case api.HardLink:
				node, _ := f.Create(1, "0", api.Meta{})
				f.Link(dir, name, node)
			}
			h := held{t, f}
			h.treeWhys(1, api.Packing{}, x.why)
			h.treeWhys(1, api.Packing{Apart: true}, x.why)
			h.oneWhys(1, x.parts, x.why)
			below := at(f, x.parts[0]) // from the next directory on each name is shorter
			h.tree(below, api.Packing{})
			h.one(below, x.parts[1:], api.Packing{})
		}
	}
}

// P21.1: a name that is refused at the first, a middle and the last place; of several the first one's error is told.
func TestRefusedAt(t *testing.T) {
	t.Parallel()
	ways := map[string]func(first string) []string{
		"deep": func(first string) []string { return deep(first, 257) },
		"long": func(first string) []string { return long(first, 4097) },
	}
	errors := map[string]api.Errno{"deep": api.ErrDeep, "long": api.ErrLong}
	for _, x := range []struct{ names, first string }{
		{"a deep", "deep"}, {"m deep", "deep"}, {"z deep", "deep"},
		{"a long", "long"}, {"m long", "long"}, {"z long", "long"},
		{"a deep, m long", "deep"}, {"a deep, z long", "deep"}, {"m deep, z long", "deep"},
		{"a long, m deep", "long"}, {"a long, z deep", "long"}, {"m long, z deep", "long"},
		{"z deep, a long", "long"}, {"z long, a deep", "deep"}, // whichever was made first
		{"a.b deep, a long", "deep"}, {"a.b long, a deep", "deep"}, // the long one's first component is longer than a
		{"a deep, m long, z deep", "deep"}, {"a long, m deep, z long", "long"},
	} {
		f := grown(t, "b", "d/", "d/f", "n -> m", "y/")
		for _, name := range strings.Split(x.names, ", ") {
			first, way, _ := strings.Cut(name, " ")
			chain(f, 1, ways[way](first)...)
		}
		for _, p := range packings() {
			held{t, f}.treeWhys(1, p, errors[x.first])
		}
		held{t, f}.tells(at(f, "d"), api.Packing{}, " f") // what is refused lies elsewhere
	}
}

// P21.1: a tree that is far deeper than a name may be.
func TestFarTooDeep(t *testing.T) {
	f, _ := vfs.New(api.MaxNodes, 0)
	chain(f, 1, slices.Repeat([]string{"d"}, api.MaxNodes-1)...)
	if list, why := pack.Tree(f, 1, api.Packing{}); list != nil || why != api.ErrDeep {
		t.Error(len(list), why)
	}
	if n, size, why := pack.Sizes(f, 1, api.Packing{}); n != 0 || size != 0 || why != api.ErrDeep {
		t.Error(n, size, why)
	}
}

// P21.1, P21.3: Sizes that add up to just as many bytes as there may be, and to one more: with Apart alone there can be more.
func TestMuch(t *testing.T) {
	t.Parallel()
	const most = api.MaxBytes
	for _, x := range []struct {
		sizes []int // of files
		names int   // how many further names the first one has
		apart int64 // what they add up to with Apart
		why   api.Errno
	}{
		{[]int{most}, 0, most, api.OK},
		{[]int{most}, 1, 0, api.ErrLong},
		{[]int{most - 1, 1}, 0, most, api.OK},
		{[]int{1, most - 1}, 0, most, api.OK},
		{[]int{1, most - 2}, 1, most, api.OK},
		{[]int{1, most - 1}, 1, 0, api.ErrLong},
		{[]int{most / 2}, 1, most, api.OK},
		{[]int{most / 2, 0}, 1, most, api.OK},
		{[]int{most / 2, 1}, 1, 0, api.ErrLong},
		{[]int{most/2 + 1}, 1, 0, api.ErrLong},
		{[]int{most / 16}, 15, most, api.OK},
		{[]int{most / 16}, 16, 0, api.ErrLong},
		{[]int{most / 16, 1}, 15, 0, api.ErrLong},
		{[]int{most}, 511, 0, api.ErrLong},  // 2^31
		{[]int{most}, 1023, 0, api.ErrLong}, // 2^32
		{[]int{0}, 2000, 0, api.OK},
	} {
		f, _ := vfs.New(99, most)
		all := int64(0)
		for i, size := range x.sizes {
			node, _ := f.Create(1, string(rune('a'+i)), api.Meta{})
			f.Resize(node, size)
			all += int64(size)
		}
		for i := range x.names {
			f.Link(1, "n"+string(rune(200+i)), 2)
		}
		n := len(x.sizes) + x.names
		h := held{t, f}
		sized := func(p api.Packing, size int64, want api.Errno) {
			t.Helper()
			if want != api.OK {
				n = 0
			}
			got, is, why := pack.Sizes(f, 1, p)
			if list, other := h.tree(1, p); len(list) != n || other != want || got != n || is != size || why != want {
				t.Errorf("%v with %d more names, %+v: %d entries, %d; %d %d %d, not %d %d", x.sizes, x.names, p, len(list), other, got, is, why, size, want)
			}
		}
		sized(api.Packing{}, all, api.OK)
		sized(api.Packing{Apart: true}, x.apart, x.why)
		h.one(1, []string{"a"}, api.Packing{Apart: true}) // it stands for no more than itself
	}
}

// P21.1: a name's error is ahead of that of too many bytes, wherever the name stands.
func TestNameAheadOfBytes(t *testing.T) {
	for _, name := range []string{"a", "m", "z"} {
		f, _ := vfs.New(api.MaxNodes, api.MaxBytes)
		node, _ := f.Create(1, "h", api.Meta{})
		f.Resize(node, api.MaxBytes)
		f.Link(1, "i", node)
		f.Link(1, "x", node)
		h := held{t, f}
		h.treeWhys(1, api.Packing{Apart: true}, api.ErrLong)
		chain(f, 1, deep(name, 257)...)
		h.treeWhys(1, api.Packing{Apart: true}, api.ErrDeep)
		h.treeWhys(1, api.Packing{}, api.ErrDeep)
	}
}

// P21.2: One of all that is not there, or that can't be a name; what is wrong with the name is ahead of what is wrong with top and with the tree.
func TestOneFaults(t *testing.T) {
	h := held{t, house(t)}
	for _, x := range []struct {
		parts []string
		why   api.Errno
	}{
		{nil, api.ErrEmpty},
		{[]string{}, api.ErrEmpty},
		{[]string{""}, api.ErrEmpty},
		{[]string{"."}, api.ErrEmpty},
		{[]string{"d", ""}, api.ErrEmpty},
		{[]string{"d", ".", "e"}, api.ErrEmpty},
		{[]string{".."}, api.ErrDots},
		{[]string{"d", "..", "f"}, api.ErrDots},
		{[]string{"f", ".."}, api.ErrDots},    // a file is in the way, too
		{[]string{"none", ".."}, api.ErrDots}, // and nothing there
		{[]string{"up", "x\x00"}, api.ErrZero},
		{[]string{"\x00"}, api.ErrZero},
		{[]string{"d/e"}, api.ErrAbsolute},
		{[]string{"/d"}, api.ErrAbsolute},
		{[]string{"/"}, api.ErrAbsolute},
		{[]string{"d", "e/"}, api.ErrAbsolute},
		{[]string{wide(256)}, api.ErrName},
		{[]string{"f", wide(256)}, api.ErrName},
		{[]string{wide(256), ".."}, api.ErrName}, // component by component
		{[]string{"..", wide(256)}, api.ErrDots},
		{[]string{"..", ""}, api.ErrDots},
		{[]string{"", ".."}, api.ErrEmpty},
		{[]string{"/\x00"}, api.ErrZero},
		{[]string{"/" + wide(256)}, api.ErrAbsolute},
		{deep("f", 257), api.ErrDeep},
		{append(deep("f", 257), ".."), api.ErrDots},
		{long("f", 4097), api.ErrLong},
		{slices.Repeat([]string{wide(255)}, 257), api.ErrDeep},
	} {
		for _, top := range []int{2, 1, 0, -1, 99, at(h.f, "f"), at(h.f, "s")} {
			h.oneWhys(top, x.parts, x.why)
		}
	}
	for _, x := range []struct {
		name string
		why  api.Errno
	}{
		{"none", api.ErrNone}, {"d/none", api.ErrNone}, {"d/e/none", api.ErrNone}, {"none/none", api.ErrNone}, {"D", api.ErrNone}, {"d/f", api.ErrNone},
		{"f/x", api.ErrNotDir}, {"d/g/x", api.ErrNotDir}, {"h/x/y", api.ErrNotDir}, {"d/h/f", api.ErrNotDir},
		{"up/t", api.ErrInWay}, {"in/g", api.ErrInWay}, {"root/t/f", api.ErrInWay}, {"d/up/f", api.ErrInWay}, {"loop/loop", api.ErrInWay}, {"dead/x", api.ErrInWay}, {"out/f", api.ErrInWay},
		{"f", api.OK}, {"d", api.OK}, {"d/e", api.OK}, {"up", api.OK}, {"loop", api.OK}, {"dead", api.OK}, {"d/e/up", api.OK}, {"zzz", api.OK},
	} {
		parts := strings.Split(x.name, "/")
		h.oneWhys(2, parts, x.why)
		h.oneWhys(1, append([]string{"t"}, parts...), x.why)
		h.oneWhys(99, parts, api.ErrOutside)
		h.oneWhys(at(h.f, "s"), parts, api.ErrNotDir)
	}
}
