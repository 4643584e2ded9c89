package writer_test

import (
	"math"
	"math/rand"
	"slices"
	"strings"
	"testing"

	"satchel/api"
	"satchel/path"
	"satchel/writer"
)

// longest is as many bytes of data as there can be, and one more.
var longest = make([]byte, api.MaxBlock+1)

// checking holds Check to an error and to the model.
func checking(t *testing.T, x api.Packed, want api.Errno) {
	t.Helper()
	if why := writer.Check(x); why != want || why != modelCheck(x) {
		t.Errorf("%.300v, %d bytes: %d, not %d (the model: %d)", x.Entry, len(x.Data), why, want, modelCheck(x))
	}
}

// P17.1: the chapter's examples.
func TestCheckExamples(t *testing.T) {
	checking(t, file("./a", ""), api.ErrArg)
	checking(t, file("a", "abc"), api.OK)
	checking(t, api.Packed{Entry: api.Entry{Name: "a", Kind: api.HardLink}}, api.ErrArg)
	checking(t, api.Packed{Entry: api.Entry{Name: "a", Kind: api.Device, Type: 'x'}}, api.ErrOdd)
}

// P17.1: names that path.Clean refuses, names that it changes, and names that it leaves.
func TestCheckNames(t *testing.T) {
	deep := strings.Repeat("d/", 255)
	wide := strings.Repeat("w", 255)
	for _, x := range []struct {
		name string
		want api.Errno
	}{
		{"", api.ErrEmpty},
		{".", api.ErrEmpty},
		{"./.", api.ErrEmpty},
		{"..", api.ErrDots},
		{"a/..", api.ErrDots},
		{"../a", api.ErrDots},
		{"/", api.ErrAbsolute},
		{"/a", api.ErrAbsolute},
		{"a\x00", api.ErrZero},
		{"\x00", api.ErrZero},
		{"/a\x00", api.ErrZero},
		{wide + "w", api.ErrName},
		{"a/" + wide + "w/b", api.ErrName},
		{deep + "a/b", api.ErrDeep},
		{strings.Repeat("a", 4097), api.ErrLong},
		{strings.Repeat(wide+"/", 16) + "a", api.ErrLong},

		{"./a", api.ErrArg},
		{"a/", api.ErrArg},
		{"a//b", api.ErrArg},
		{"a/./b", api.ErrArg},
		{"a/.", api.ErrArg},
		{deep + "a/", api.ErrArg},

		{"a", api.OK},
		{"a/b", api.OK},
		{"..a", api.OK},
		{"...", api.OK},
		{" ", api.OK},
		{"\n=\xff\x01", api.OK},
		{wide, api.OK},
		{deep + "a", api.OK},
		{strings.Repeat(wide+"/", 15) + wide, api.OK},           // 4095 bytes
		{strings.Repeat(wide+"/", 15) + wide + "/", api.ErrArg}, // 4096, which is not clean
		{strings.Repeat("wide/", 16) + strings.Repeat(wide+"/", 15) + strings.Repeat("x", 176), api.OK},
		{strings.Repeat("wide/", 16) + strings.Repeat(wide+"/", 15) + strings.Repeat("x", 177), api.ErrLong},
	} {
		for kind := api.Dir; kind <= api.Device; kind++ {
			y := bare(kind)
			y.Entry.Name = x.name
			checking(t, y, x.want)
			for _, form := range forms {
				held(t, y, api.Style{Form: form})
			}
		}
		if clean, why := path.Clean(x.name); (x.want == api.OK) != (why == api.OK && clean == x.name) {
			t.Errorf("%.50q: %d", x.name, why)
		}
	}
}

// P17.1: kinds and types.
func TestCheckKinds(t *testing.T) {
	for _, kind := range []int{math.MinInt, -1, 0, 1, 2, 3, 4, 5, 6, 7, '0', 256 + 2, math.MaxInt} {
		for letter := range 256 {
			for _, link := range []string{"", "l"} {
				x := api.Packed{Entry: api.Entry{Name: "n", Kind: kind, Type: byte(letter), Link: link}}
				want := api.OK
				linked := kind == api.Symlink || kind == api.HardLink
				switch {
				case kind < 1 || kind > 5:
					want = api.ErrOdd
				case kind == api.Device && !strings.Contains("346", string(rune(letter))):
					want = api.ErrOdd
				case kind != api.Device && letter != 0:
					want = api.ErrArg
				case linked != (link == "l"):
					want = api.ErrArg
				}
				checking(t, x, want)
			}
		}
	}
}

// P17.1: numbers and lengths at their bounds and one beyond, in each kind.
func TestCheckBounds(t *testing.T) {
	text := func(n int) string { return strings.Repeat("t", n) }
	for _, f := range []struct {
		change func(*api.Packed)
		want   api.Errno
	}{
		{func(x *api.Packed) { x.Entry.Meta.Mode = 0 }, api.OK},
		{func(x *api.Packed) { x.Entry.Meta.Mode = 4095 }, api.OK},
		{func(x *api.Packed) { x.Entry.Meta.Mode = 4096 }, api.ErrArg},
		{func(x *api.Packed) { x.Entry.Meta.Mode = math.MaxUint32 }, api.ErrArg},
		{func(x *api.Packed) { x.Entry.Meta.Uid = math.MaxUint32 }, api.OK},
		{func(x *api.Packed) { x.Entry.Meta.Gid = math.MaxUint32 }, api.OK},
		{func(x *api.Packed) { x.Entry.Meta.Nano = 0 }, api.OK},
		{func(x *api.Packed) { x.Entry.Meta.Nano = -1 }, api.ErrArg},
		{func(x *api.Packed) { x.Entry.Meta.Nano = math.MinInt32 }, api.ErrArg},
		{func(x *api.Packed) { x.Entry.Meta.Nano = 999999999 }, api.OK},
		{func(x *api.Packed) { x.Entry.Meta.Nano = 1000000000 }, api.ErrArg},
		{func(x *api.Packed) { x.Entry.Meta.Nano = math.MaxInt32 }, api.ErrArg},
		{func(x *api.Packed) { x.Entry.Meta.Time = math.MinInt64 }, api.ErrArg},
		{func(x *api.Packed) { x.Entry.Meta.Time, x.Entry.Meta.Nano = math.MinInt64, 5 }, api.ErrArg},
		{func(x *api.Packed) { x.Entry.Meta.Time = math.MinInt64 + 1 }, api.OK},
		{func(x *api.Packed) { x.Entry.Meta.Time = math.MaxInt64 }, api.OK},
		{func(x *api.Packed) { x.Entry.User = text(4096) }, api.OK},
		{func(x *api.Packed) { x.Entry.User = text(4097) }, api.ErrLong},
		{func(x *api.Packed) { x.Entry.Group = text(4096) }, api.OK},
		{func(x *api.Packed) { x.Entry.Group = text(4097) }, api.ErrLong},
		{func(x *api.Packed) { x.Entry.User = "\x00" }, api.ErrArg},
		{func(x *api.Packed) { x.Entry.User = text(4095) + "\x00" }, api.ErrArg},
		{func(x *api.Packed) { x.Entry.User = text(4096) + "\x00" }, api.ErrLong},
		{func(x *api.Packed) { x.Entry.Group = "a\x00b" }, api.ErrArg},
		{func(x *api.Packed) { x.Entry.Group = "\x00" + text(4096) }, api.ErrLong},
		{func(x *api.Packed) { x.Entry.Size++ }, api.ErrBytes},
		{func(x *api.Packed) { x.Entry.Size-- }, api.ErrBytes},
		{func(x *api.Packed) { x.Entry.Size = math.MaxInt64 }, api.ErrBytes},
		{func(x *api.Packed) { x.Entry.Size = math.MinInt64 }, api.ErrBytes},
	} {
		for kind := api.Dir; kind <= api.Device; kind++ {
			x := bare(kind)
			f.change(&x)
			checking(t, x, f.want)
			held(t, x, api.Style{Form: api.Pax})
			held(t, x, api.Style{Form: api.GNU, Holes: 1})
		}
		x := file("f", "abc")
		f.change(&x)
		checking(t, x, f.want)
	}
	for _, kind := range []int{api.Symlink, api.HardLink} {
		for _, l := range []struct {
			link string
			want api.Errno
		}{
			{"", api.ErrArg}, {"a", api.OK}, {"../../a//./b/", api.OK}, {"/", api.OK}, {"\xff\n", api.OK}, {text(100), api.OK}, {text(101), api.OK}, {text(4096), api.OK},
			{text(4097), api.ErrLong}, {"\x00", api.ErrArg}, {"a\x00", api.ErrArg}, {text(4096) + "\x00", api.ErrLong},
		} {
			x := bare(kind)
			x.Entry.Link = l.link
			checking(t, x, l.want)
			held(t, x, api.Style{Form: api.Pax})
		}
	}
}

// P17.1: how many bytes there may be, and of what.
func TestCheckBytes(t *testing.T) {
	for kind := api.Dir; kind <= api.Device; kind++ {
		for _, x := range []struct {
			n    int
			size int64
			file api.Errno // of a File
			want api.Errno // of anything else
		}{
			{0, 0, api.OK, api.OK},
			{1, 1, api.OK, api.ErrBytes},
			{1, 0, api.ErrBytes, api.ErrBytes},
			{0, 1, api.ErrBytes, api.ErrBytes},
			{0, -1, api.ErrBytes, api.ErrBytes},
			{api.MaxBlock, api.MaxBlock, api.OK, api.ErrBytes},
			{api.MaxBlock, api.MaxBlock + 1, api.ErrBytes, api.ErrBytes},
			{api.MaxBlock + 1, api.MaxBlock + 1, api.ErrLong, api.ErrLong},
			{api.MaxBlock + 1, 0, api.ErrLong, api.ErrLong},
		} {
			y := bare(kind)
			y.Data, y.Entry.Size = longest[:x.n], x.size
			if kind == api.File {
				x.want = x.file
			}
			checking(t, y, x.want)
		}
	}
	y := bare(api.Dir)
	y.Data = []byte{} // none and empty are alike
	checking(t, y, api.OK)
}

// fault is a change of a symbolic link that Check refuses; two with the same field undo each other.
type fault struct {
	rank   int // its place in P17.1
	field  string
	why    api.Errno
	change func(*api.Packed)
}

// faults are all errors of Check.
func faults() []fault {
	long := strings.Repeat("x", 4097)
	return []fault{
		{1, "name", api.ErrEmpty, func(x *api.Packed) { x.Entry.Name = "" }},
		{1, "name", api.ErrDots, func(x *api.Packed) { x.Entry.Name = "a/../b" }},
		{1, "name", api.ErrAbsolute, func(x *api.Packed) { x.Entry.Name = "/a" }},
		{1, "name", api.ErrZero, func(x *api.Packed) { x.Entry.Name = "a\x00" }},
		{1, "name", api.ErrName, func(x *api.Packed) { x.Entry.Name = strings.Repeat("a", 256) }},
		{1, "name", api.ErrDeep, func(x *api.Packed) { x.Entry.Name = strings.Repeat("a/", 256) + "a" }},
		{1, "name", api.ErrLong, func(x *api.Packed) { x.Entry.Name = long }},
		{2, "name", api.ErrArg, func(x *api.Packed) { x.Entry.Name = "a/" }},
		{3, "kind", api.ErrOdd, func(x *api.Packed) { x.Entry.Kind = 0 }},
		{3, "kind", api.ErrOdd, func(x *api.Packed) { x.Entry.Kind = 6 }},
		{4, "mode", api.ErrArg, func(x *api.Packed) { x.Entry.Meta.Mode = 4096 }},
		{4, "nano", api.ErrArg, func(x *api.Packed) { x.Entry.Meta.Nano = -1 }},
		{4, "nano", api.ErrArg, func(x *api.Packed) { x.Entry.Meta.Nano = 1000000000 }},
		{4, "time", api.ErrArg, func(x *api.Packed) { x.Entry.Meta.Time = math.MinInt64 }},
		{5, "user", api.ErrLong, func(x *api.Packed) { x.Entry.User = long }},
		{5, "group", api.ErrLong, func(x *api.Packed) { x.Entry.Group = long }},
		{5, "link", api.ErrLong, func(x *api.Packed) { x.Entry.Link = long }},
		{5, "data", api.ErrLong, func(x *api.Packed) { x.Data = longest }},
		{6, "user", api.ErrArg, func(x *api.Packed) { x.Entry.User = "a\x00" }},
		{6, "group", api.ErrArg, func(x *api.Packed) { x.Entry.Group = "\x00" }},
		{6, "link", api.ErrArg, func(x *api.Packed) { x.Entry.Link = "\x00b" }},
		{7, "link", api.ErrArg, func(x *api.Packed) { x.Entry.Link = "" }},
		{7, "type", api.ErrArg, func(x *api.Packed) { x.Entry.Type = '2' }},
		{8, "size", api.ErrBytes, func(x *api.Packed) { x.Entry.Size = 1 }},
		{8, "data", api.ErrBytes, func(x *api.Packed) { x.Data = []byte("x") }},
		{8, "data", api.ErrBytes, func(x *api.Packed) { x.Data, x.Entry.Size = []byte("x"), 1 }},
	}
}

// P17.1: each fault alone, and each two at once: the one that is named first is told, whichever was made first.
func TestCheckOrder(t *testing.T) {
	for i, f := range faults() {
		x := bare(api.Symlink)
		f.change(&x)
		checking(t, x, f.why)
		for j, g := range faults() {
			if i == j || f.field == g.field {
				continue
			}
			x := bare(api.Symlink)
			f.change(&x)
			g.change(&x)
			want := f
			if g.rank < f.rank {
				want = g
			}
			if g.rank == f.rank && g.why != f.why {
				t.Fatalf("%v and %v", f, g)
			}
			checking(t, x, want.why)
		}
	}
}

// P17.1: of kinds that have no link, or a type of their own, two faults at once.
func TestCheckOrderOfKinds(t *testing.T) {
	odd := api.Packed{Entry: api.Entry{Name: "n", Kind: api.Device, Type: '5', Link: "l"}}
	for _, x := range []struct {
		change func(*api.Packed)
		want   api.Errno
	}{
		{func(x *api.Packed) {}, api.ErrOdd},
		{func(x *api.Packed) { x.Entry.Name = "a//b" }, api.ErrArg},
		{func(x *api.Packed) { x.Entry.Meta.Mode = 9999 }, api.ErrOdd},
		{func(x *api.Packed) { x.Data = longest }, api.ErrOdd},
		{func(x *api.Packed) { x.Entry.Type = '3' }, api.ErrArg},
		{func(x *api.Packed) { x.Entry.Type, x.Data = '4', longest }, api.ErrLong},
		{func(x *api.Packed) { x.Entry.Type, x.Entry.Size = '6', 7 }, api.ErrArg},
		{func(x *api.Packed) { x.Entry.Type, x.Entry.Size, x.Entry.Link = '6', 7, "" }, api.ErrBytes},
		{func(x *api.Packed) { x.Entry.Kind = api.Dir }, api.ErrArg},
		{func(x *api.Packed) { x.Entry.Kind, x.Entry.Size = api.File, 9 }, api.ErrArg},
		{func(x *api.Packed) { x.Entry.Kind, x.Entry.Size, x.Entry.Link = api.File, 9, "" }, api.ErrArg},
		{func(x *api.Packed) { x.Entry.Kind, x.Entry.Size, x.Entry.Link, x.Entry.Type = api.File, 9, "", 0 }, api.ErrBytes},
		{func(x *api.Packed) { x.Entry.Kind, x.Entry.Type, x.Data = api.File, 0, longest }, api.ErrLong},
		{func(x *api.Packed) { x.Entry.Kind, x.Entry.Type, x.Entry.Link = api.Dir, 0, "a\x00" }, api.ErrArg},
		{func(x *api.Packed) { x.Entry.Kind, x.Entry.Type, x.Entry.Link = api.Dir, 0, strings.Repeat("l", 4097) }, api.ErrLong},
	} {
		y := odd
		x.change(&y)
		checking(t, y, x.want)
	}
}

// P17.1, P17.3, P17.5: entries with faults by chance, some at once, in each style: Check's error is told by all.
func TestCheckChance(t *testing.T) {
	r := rand.New(rand.NewSource(17))
	small := slices.DeleteFunc(faults(), func(f fault) bool { return f.field == "data" && f.rank == 5 })
	for range 3000 {
		x := bare(1 + r.Intn(5))
		if r.Intn(2) == 0 {
			x = file("f", "data")
		}
		for range r.Intn(4) {
			small[r.Intn(len(small))].change(&x)
		}
		held(t, x, api.Style{Form: r.Intn(6), Holes: r.Intn(3) - 1})
	}
}
