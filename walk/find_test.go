package walk_test

import (
	"math"
	"slices"
	"strings"
	"testing"

	"satchel/api"
	"satchel/vfs"
	"satchel/walk"
)

const (
	a255 = "0123456789012345678901234567890123456789012345678901234567890123456789012345678901234567890123456789" +
		"0123456789012345678901234567890123456789012345678901234567890123456789012345678901234567890123456789" +
		"0123456789012345678901234567890123456789012345678901234"
)

// noNames are texts that can't be names.
var noNames = []string{"", ".", "..", "/", "a/", "/a", "a/b", "a\x00", "\x00", a255 + "5"}

// numbers that no inode has.
var noNumbers = []int{0, -1, 99, math.MaxInt, math.MinInt, api.MaxNumber}

// bad is a meta that can't be.
var bad = api.Meta{Mode: 4096}

// grown is a file system that lines make, each an inode or a name, numbered from 2 on as they stand: "d/" is a directory, "s -> t" a symbolic link, "h = f" another name, any other one a file.
func grown(t *testing.T, lines ...string) *vfs.FS {
	t.Helper()
	f, why := vfs.New(api.MaxNodes, 1000)
	if why != api.OK {
		t.Fatal(why)
	}
	place := func(name string) (int, string) {
		dir := 1
		parts := strings.Split(name, "/")
		for _, part := range parts[:len(parts)-1] {
			dir, _ = f.Lookup(dir, part)
		}
		return dir, parts[len(parts)-1]
	}
	for i, line := range lines {
		m := api.Meta{Mode: uint32(i), Uid: 5, Time: int64(i)}
		why := api.OK
		if name, target, ok := strings.Cut(line, " -> "); ok {
			dir, name := place(name)
			_, why = f.Symlink(dir, name, target, m)
		} else if name, other, ok := strings.Cut(line, " = "); ok {
			dir, name := place(name)
			in, other := place(other)
			node, _ := f.Lookup(in, other)
			why = f.Link(dir, name, node)
		} else if name, ok := strings.CutSuffix(line, "/"); ok {
			dir, name := place(name)
			_, why = f.Mkdir(dir, name, m)
		} else {
			var node int
			dir, name := place(line)
			node, why = f.Create(dir, name, m)
			f.Write(node, 0, []byte(line))
		}
		if why != api.OK {
			t.Fatalf("%s: %d", line, why)
		}
	}
	f.Forget()
	return f
}

// example is the chapter's: numbers as it has them.
func example(t *testing.T) *vfs.FS {
	return grown(t, "a/", "s -> a/f", "t -> t", "u -> ../../a", "a/f")
}

// some is a tree with a file, a symbolic link and a directory at each depth.
func some(t *testing.T) *vfs.FS {
	return grown(t, "a/", "a/b/", "a/b/c/", "f", "s -> a", "a/f", "a/s -> b", "a/b/f", "a/b/s -> c", "a/b/c/f", "a/b/c/s -> f", a255+"/", a255+"/f")
}

// P11.1, P11.2: the chapter's examples.
func TestExamplesOfFind(t *testing.T) {
	f := example(t)
	for _, x := range []struct {
		parts []string
		node  int
		at    int
		why   api.Errno
	}{
		{[]string{"a", "f"}, 6, 0, api.OK},
		{[]string{"s"}, 3, 0, api.OK},
		{[]string{"s", "x"}, 0, 0, api.ErrInWay},
		{[]string{"a", "f", "x"}, 0, 1, api.ErrNotDir},
		{[]string{"b", "x"}, 0, 0, api.ErrNone},
		{nil, 1, 0, api.OK},
		{[]string{}, 1, 0, api.OK},
	} {
		if n, at, why := walk.Find(f, 1, x.parts); n != x.node || at != x.at || why != x.why {
			t.Errorf("%q: %d %d %d", x.parts, n, at, why)
		}
	}
	h := held{t, f}
	if n, made, why := h.make(1, []string{"a", "x", "y"}, api.Meta{}); n != 8 || made != 2 || why != api.OK {
		t.Error(n, made, why)
	}
	if n, made, why := h.make(1, []string{"s", "x"}, api.Meta{}); n != 0 || made != 0 || why != api.ErrInWay {
		t.Error(n, made, why)
	}
}

// P11.1: a file, a symbolic link, a directory and nothing as the first, a middle and the last part, and the place of the refusal.
func TestFind(t *testing.T) {
	f := some(t)
	h, m := held{t, f}, modelOf(f)
	for _, x := range []struct {
		name string
		node int
		at   int
		why  api.Errno
	}{
		{"a", 2, 0, api.OK},
		{"f", 5, 0, api.OK},
		{"s", 6, 0, api.OK},
		{"x", 0, 0, api.ErrNone},
		{"f x", 0, 0, api.ErrNotDir},
		{"s b", 0, 0, api.ErrInWay},
		{"s x", 0, 0, api.ErrInWay},
		{"x x", 0, 0, api.ErrNone},
		{"f x x", 0, 0, api.ErrNotDir},
		{"s b c", 0, 0, api.ErrInWay},
		{"x x x", 0, 0, api.ErrNone},
		{"a b", 3, 0, api.OK},
		{"a f", 7, 0, api.OK},
		{"a s", 8, 0, api.OK},
		{"a x", 0, 1, api.ErrNone},
		{"a f x", 0, 1, api.ErrNotDir},
		{"a s c", 0, 1, api.ErrInWay},
		{"a x x", 0, 1, api.ErrNone},
		{"a b c", 4, 0, api.OK},
		{"a b f", 9, 0, api.OK},
		{"a b s", 10, 0, api.OK},
		{"a b x", 0, 2, api.ErrNone},
		{"a b f x", 0, 2, api.ErrNotDir},
		{"a b s f", 0, 2, api.ErrInWay},
		{"a b x x x", 0, 2, api.ErrNone},
		{"a b c f", 11, 0, api.OK},
		{"a b c s", 12, 0, api.OK},
		{"a b c f f", 0, 3, api.ErrNotDir},
		{"a b c s s", 0, 3, api.ErrInWay},
		{a255, 13, 0, api.OK},
		{a255 + " f", 14, 0, api.OK},
		{"A", 0, 0, api.ErrNone},
		{"a B", 0, 1, api.ErrNone},
	} {
		h.unchanged(x.name, func() {
			if n, at, why := h.find(m, 1, strings.Split(x.name, " ")); n != x.node || at != x.at || why != x.why {
				t.Errorf("%s: %d %d %d", x.name, n, at, why)
			}
		})
	}
	for _, x := range []struct {
		top  int
		name string
		node int
	}{{2, "b", 3}, {2, "b c", 4}, {3, "c f", 11}, {4, "s", 12}, {13, "f", 14}} {
		if n, at, why := h.find(m, x.top, strings.Split(x.name, " ")); n != x.node || at != 0 || why != api.OK {
			t.Errorf("%d %s: %d %d %d", x.top, x.name, n, at, why)
		}
	}
	for _, top := range []int{1, 2, 3, 4, 13} { // of no parts
		if n, at, why := walk.Find(f, top, nil); n != top || at != 0 || why != api.OK {
			t.Errorf("%d: %d %d %d", top, n, at, why)
		}
	}
}

// P11.1: a text that can't be a name has no entry, wherever it stands; but what stands ahead of it is met first.
func TestFindOfNoNames(t *testing.T) {
	f := some(t)
	h, m := held{t, f}, modelOf(f)
	for _, text := range noNames {
		for _, x := range []struct {
			parts []string
			at    int
			why   api.Errno
		}{
			{[]string{text}, 0, api.ErrNone},
			{[]string{text, "a"}, 0, api.ErrNone},
			{[]string{"a", text}, 1, api.ErrNone},
			{[]string{"a", text, "b"}, 1, api.ErrNone},
			{[]string{"a", "b", text}, 2, api.ErrNone},
			{[]string{"a", "b", text, text}, 2, api.ErrNone},
			{[]string{"f", text}, 0, api.ErrNotDir},
			{[]string{"s", text}, 0, api.ErrInWay},
			{[]string{"x", text}, 0, api.ErrNone},
			{[]string{"a", "f", text}, 1, api.ErrNotDir},
			{[]string{"a", "s", text}, 1, api.ErrInWay},
		} {
			if n, at, why := h.find(m, 1, x.parts); n != 0 || at != x.at || why != x.why {
				t.Errorf("%q: %d %d %d", x.parts, n, at, why)
			}
		}
	}
}

// P11.1, P11.2: tops that are not there, and tops that are no directory, ahead of all else.
func TestNoTop(t *testing.T) {
	h := held{t, some(t)}
	m := modelOf(h.f)
	lists := [][]string{nil, {"a"}, {"a", "b"}, {"f", "x"}, {"s", "x"}, {".."}, {"x", "y"}}
	try := func(top int, want api.Errno) {
		for _, parts := range lists {
			h.unchanged("Find and Make", func() {
				if n, at, why := h.find(m, top, parts); n != 0 || at != 0 || why != want {
					t.Errorf("Find(%d, %q): %d %d %d", top, parts, n, at, why)
				}
				if n, made, why := walk.Make(h.f, top, parts, bad); n != 0 || made != 0 || why != want {
					t.Errorf("Make(%d, %q): %d %d %d", top, parts, n, made, why)
				}
			})
		}
	}
	for _, top := range noNumbers {
		try(top, api.ErrOutside)
	}
	for _, top := range []int{5, 6, 7, 8, 12} { // files and symbolic links alike
		try(top, api.ErrNotDir)
	}
	f, _ := vfs.New(9, 9)
	gone, _ := f.Mkdir(1, "gone", api.Meta{})
	f.Rmdir(1, "gone")
	if _, _, why := walk.Find(f, gone, nil); why != api.ErrOutside {
		t.Error(why)
	}
	if _, _, why := walk.Make(f, gone, []string{"x"}, api.Meta{}); why != api.ErrOutside {
		t.Error(why)
	}
}

// P11.2: what is there, what is missing, and what is in the way, which the last part may not be either.
func TestMake(t *testing.T) {
	meta := api.Meta{Mode: 4095, Uid: 1, Gid: 2, Time: -3, Nano: 999999999}
	for _, x := range []struct {
		name string
		node int
		made int
		why  api.Errno
	}{
		{"a", 2, 0, api.OK},
		{"a b", 3, 0, api.OK},
		{"a b c", 4, 0, api.OK},
		{"x", 15, 1, api.OK},
		{"x y", 16, 2, api.OK},
		{"x x x", 17, 3, api.OK},
		{"a x", 15, 1, api.OK},
		{"a b x y z", 17, 3, api.OK},
		{"a b c a b c", 17, 3, api.OK},
		{a255 + " " + a255, 15, 1, api.OK},
		{"f", 0, 0, api.ErrNotDir},
		{"s", 0, 0, api.ErrInWay},
		{"f x", 0, 0, api.ErrNotDir},
		{"s x", 0, 0, api.ErrInWay},
		{"s b", 0, 0, api.ErrInWay},
		{"a f", 0, 0, api.ErrNotDir},
		{"a s", 0, 0, api.ErrInWay},
		{"a f x", 0, 0, api.ErrNotDir},
		{"a s x", 0, 0, api.ErrInWay},
		{"a b f", 0, 0, api.ErrNotDir},
		{"a b s", 0, 0, api.ErrInWay},
		{"a b f x y", 0, 0, api.ErrNotDir},
		{"a b s x y", 0, 0, api.ErrInWay},
	} {
		h := held{t, some(t)}
		if n, made, why := h.make(1, strings.Split(x.name, " "), meta); n != x.node || made != x.made || why != x.why {
			t.Errorf("%s: %d %d %d", x.name, n, made, why)
		}
		for i := range x.made {
			if is, why := h.f.Stat(15 + i); why != api.OK || is.Kind != api.Dir || is.Meta != meta {
				t.Errorf("%s: %+v %d", x.name, is, why)
			}
		}
		// Once it is made it is found, and nothing more is made.
		if x.why == api.OK {
			if n, made, why := h.make(1, strings.Split(x.name, " "), bad); n != x.node || made != 0 || why != api.OK {
				t.Errorf("%s again: %d %d %d", x.name, n, made, why)
			}
		}
	}
	h := held{t, some(t)}
	for _, top := range []int{1, 2, 3, 4, 13} { // of no parts
		if n, made, why := h.make(top, nil, bad); n != top || made != 0 || why != api.OK {
			t.Errorf("%d: %d %d %d", top, n, made, why)
		}
	}
	if n, made, why := h.make(3, []string{"c", "x"}, meta); n != 15 || made != 1 || why != api.OK {
		t.Error(n, made, why)
	}
	if in, why := h.f.Lookup(4, "x"); in != 15 || why != api.OK {
		t.Error(in, why)
	}
}

// P11.2: names and metas that can't be are Mkdir's errors, where a directory would have to be made; what was made ahead stays.
func TestMakeOfNoNames(t *testing.T) {
	for _, text := range noNames {
		for _, x := range []struct {
			parts []string
			made  int
			why   api.Errno
		}{
			{[]string{text}, 0, api.ErrComponent},
			{[]string{text, "x"}, 0, api.ErrComponent},
			{[]string{"a", text}, 0, api.ErrComponent},
			{[]string{"x", text}, 1, api.ErrComponent},
			{[]string{"x", text, "y"}, 1, api.ErrComponent},
			{[]string{"a", "x", "y", "z", text, text}, 3, api.ErrComponent},
			{[]string{"f", text}, 0, api.ErrNotDir},
			{[]string{"s", text}, 0, api.ErrInWay},
		} {
			h := held{t, some(t)}
			if n, made, why := h.make(1, x.parts, api.Meta{}); n != 0 || made != x.made || why != x.why {
				t.Errorf("%q: %d %d %d", x.parts, n, made, why)
			}
			if free, _ := h.f.Free(); free != api.MaxNodes-14-x.made {
				t.Errorf("%q: room for %d", x.parts, free)
			}
		}
	}
}

func TestMakeOfNoMeta(t *testing.T) {
	for _, meta := range []api.Meta{bad, {Mode: math.MaxUint32}, {Nano: -1}, {Nano: 1e9}} {
		h := held{t, some(t)}
		for _, x := range []struct {
			name string
			node int
			why  api.Errno
		}{
			{"a b", 3, api.OK}, // nothing is made
			{"x", 0, api.ErrArg},
			{"x y", 0, api.ErrArg},
			{"a b x", 0, api.ErrArg},
			{"..", 0, api.ErrComponent},
			{"a ..", 0, api.ErrComponent},
			{"f", 0, api.ErrNotDir},
			{"s x", 0, api.ErrInWay},
		} {
			if n, made, why := h.make(1, strings.Split(x.name, " "), meta); n != x.node || made != 0 || why != x.why {
				t.Errorf("%s: %d %d %d", x.name, n, made, why)
			}
		}
	}
}

// P11.2: room that ends after none, one and some; and numbers that end.
func TestMakeWithoutRoom(t *testing.T) {
	parts := []string{"a", "b", "c", "d", "e"}
	for room := range 7 {
		f, _ := vfs.New(1+room, 0)
		numbers := f.Image()
		numbers.Nodes, numbers.Next = 100, api.MaxNumber-room
		g, why := vfs.Load(numbers)
		if why != api.OK {
			t.Fatal(why)
		}
		for _, h := range []held{{t, f}, {t, g}} {
			if room < len(parts) {
				if n, made, why := h.make(1, parts, api.Meta{}); n != 0 || made != room || why != api.ErrSpace {
					t.Errorf("%d: %d %d %d", room, n, made, why)
				}
				if n, at, why := walk.Find(h.f, 1, parts[:room]); at != 0 || why != api.OK {
					t.Errorf("%d: found %d %d %d", room, n, at, why)
				}
				// Again: the first ones are there now.
				if n, made, why := h.make(1, parts, api.Meta{}); n != 0 || made != 0 || why != api.ErrSpace {
					t.Errorf("%d again: %d %d %d", room, n, made, why)
				}
				if n, made, why := h.make(1, slices.Concat(parts[:room], []string{"x"}), bad); n != 0 || made != 0 || why != api.ErrArg {
					t.Errorf("%d and no meta: %d %d %d", room, n, made, why)
				}
			} else if _, made, why := h.make(1, parts, api.Meta{}); made != 5 || why != api.OK {
				t.Errorf("%d: %d %d", room, made, why)
			}
		}
	}
}

// P11.1 to P11.3: as many parts as there is room for, which are more than a name may have.
func TestDeep(t *testing.T) {
	f, _ := vfs.New(api.MaxNodes, 0)
	parts := strings.Split(strings.Repeat("a/", api.MaxNodes-2)+"a", "/")
	n, made, why := walk.Make(f, 1, parts, api.Meta{})
	if n != api.MaxNodes || made != api.MaxNodes-1 || why != api.OK {
		t.Fatal(n, made, why)
	}
	if n, at, why := walk.Find(f, 1, parts); n != api.MaxNodes || at != 0 || why != api.OK {
		t.Error(n, at, why)
	}
	if n, at, why := walk.Find(f, 1, append(parts, "x", "y")); n != 0 || at != api.MaxNodes-1 || why != api.ErrNone {
		t.Error(n, at, why)
	}
	if d, why := walk.Depth(f, 1, api.MaxNodes); d != api.MaxNodes-1 || why != api.OK {
		t.Error(d, why)
	}
	if n, why := walk.Follow(f, 1, 1, strings.Join(parts, "/"), true); n != api.MaxNodes || why != api.OK {
		t.Error(n, why)
	}
	if n, why := walk.Follow(f, 3, api.MaxNodes, strings.Repeat("../", 9999), true); n != 3 || why != api.OK {
		t.Error(n, why)
	}
	if n, why := walk.Clear(f, 2); n != api.MaxNodes-2 || why != api.OK {
		t.Error(n, why)
	}
}

// P11.3: top itself, what lies in it, what it lies in, what lies beside it, and what is no directory.
func TestInside(t *testing.T) {
	f := grown(t, "a/", "a/b/", "a/b/c/", "d/", "d/e/", "f", "s -> a", "a/f", "a/s -> b", "a/h = f")
	const out = -1
	for _, x := range []struct{ top, dir, depth int }{
		{1, 1, 0}, {2, 2, 0}, {4, 4, 0},
		{1, 2, 1}, {1, 3, 2}, {1, 4, 3}, {2, 3, 1}, {2, 4, 2}, {3, 4, 1}, {1, 6, 2},
		{2, 1, out}, {3, 1, out}, {3, 2, out}, {4, 1, out}, {4, 3, out},
		{2, 5, out}, {5, 2, out}, {3, 6, out}, {5, 4, out}, {2, 6, out},
		{1, 7, out}, {1, 8, out}, {7, 7, out}, {8, 8, out}, {2, 9, out}, {2, 10, out},
		{7, 1, out}, {8, 2, out}, {8, 3, out}, {9, 9, out}, {10, 3, out},
		{1, 0, out}, {0, 1, out}, {0, 0, out}, {-1, -1, out}, {99, 99, out}, {1, 99, out}, {99, 1, out},
		{math.MinInt, 1, out}, {1, math.MaxInt, out}, {2, -1, out}, {-1, 2, out},
	} {
		why := api.OK
		want := x.depth
		if want == out {
			want, why = 0, api.ErrOutside
		}
		held{t, f}.unchanged("Depth", func() {
			if d, e := walk.Depth(f, x.top, x.dir); d != want || e != why {
				t.Errorf("Depth(%d, %d): %d %d", x.top, x.dir, d, e)
			}
			if walk.Inside(f, x.top, x.dir) != (x.depth != out) {
				t.Errorf("Inside(%d, %d)", x.top, x.dir)
			}
		})
	}
	// What went elsewhere lies there, and no more where it was.
	if why := f.Rename(2, "b", 6, "z"); why != api.OK {
		t.Fatal(why)
	}
	if d, why := walk.Depth(f, 5, 4); d != 3 || why != api.OK || walk.Inside(f, 2, 4) || !walk.Inside(f, 1, 4) {
		t.Error(d, why)
	}
}
