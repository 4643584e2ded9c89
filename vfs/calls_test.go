package vfs_test

import (
	"math"
	"strings"
	"testing"

	"satchel/api"
	"satchel/vfs"
)

var (
	bad     = api.Meta{Mode: 4096}
	a255    = strings.Repeat("n", 255)
	a256    = strings.Repeat("n", 256)
	t4096   = strings.Repeat("t", 4096)
	t4097   = strings.Repeat("t", 4097)
	noNames = []string{"", ".", "..", "/", "a/b", "/a", "a/", "\x00", "a\x00", "\x00a", a256}
	goNames = []string{"x", "...", "..x", "x..", ".x", " ", "\xff", "\x01", "\\", "é", a255}
)

// The tree that most tests begin with:
//
//	1     a (2), e (5), f (3), h (3), s (4)
//	2 a   b (6), g (7)
//	6 b   c (8)
//
// 2, 5, 6, 8 are directories, 3 and 7 files, 4 a symbolic link.
func grown(t *testing.T, nodes, bytes int) both {
	t.Helper()
	b := newBoth(t, nodes, bytes)
	for want, c := range []call{
		2: {what: mkdir, dir: 1, name: "a", meta: api.Meta{Mode: 0o755, Uid: 1, Gid: 2, Time: -3, Nano: 4}},
		3: {what: create, dir: 1, name: "f", meta: api.Meta{Mode: 0o7777, Uid: math.MaxUint32, Gid: math.MaxUint32, Time: math.MinInt64, Nano: 999999999}},
		4: {what: symlink, dir: 1, name: "s", target: "../..", meta: api.Meta{Time: math.MaxInt64}},
		5: {what: mkdir, dir: 1, name: "e"},
		6: {what: mkdir, dir: 2, name: "b"},
		7: {what: create, dir: 2, name: "g"},
		8: {what: mkdir, dir: 6, name: "c"},
	} {
		if c.what == "" {
			continue
		}
		if got := b.ok(c); got != want {
			t.Fatalf("%s: %d", brief(c), got)
		}
	}
	b.ok(call{what: link, dir: 1, name: "h", node: 3})
	b.ok(call{what: write, node: 3, data: "abcd"})
	b.all()
	return b
}

// The chapter's first example.
func TestExample1(t *testing.T) {
	m := api.Meta{Mode: 0o644}
	b := newBoth(t, 3, 10)
	b.ok(call{what: mkdir, dir: 1, name: "a", meta: m})
	b.ok(call{what: create, dir: 2, name: "f", meta: m})
	b.whys(call{what: create, dir: 2, name: "g", meta: m}, api.ErrSpace)
	b.ok(call{what: write, node: 3, at: 2, data: "xy"})
	if text := b.do(call{what: read, node: 3, n: 99}).text; text != "\x00\x00xy" {
		t.Errorf("%q", text)
	}
	if nodes, bytes := b.f.Free(); nodes != 0 || bytes != 6 {
		t.Error(nodes, bytes)
	}
	b.ok(call{what: link, dir: 1, name: "h", node: 3})
	if s := b.do(call{what: stat, node: 3}).stat; s != (api.Stat{Node: 3, Kind: api.File, Meta: m, Links: 2, Size: 4}) {
		t.Error(s)
	}
	b.ok(call{what: unlink, dir: 2, name: "f"})
	if s := b.whys(call{what: stat, node: 3}, api.OK).stat; s.Links != 1 {
		t.Error(s)
	}
	b.ok(call{what: rmdir, dir: 1, name: "a"})
	if n := b.ok(call{what: create, dir: 1, name: "n", meta: m}); n != 4 {
		t.Error(n)
	}
}

// The chapter's second and third examples.
func TestExamples2And3(t *testing.T) {
	b := grown(t, 20, 10)
	b.whys(call{what: mkdir, dir: 1, name: ".."}, api.ErrComponent)
	b.whys(call{what: mkdir, dir: 1, name: "a/b"}, api.ErrComponent)
	b.whys(call{what: mkdir, dir: 9, name: "a"}, api.ErrNode)
	b.whys(call{what: mkdir, dir: 3, name: "a"}, api.ErrDir)
	b.whys(call{what: link, dir: 1, name: "x", node: 2}, api.ErrKind)
	b = newBoth(t, 2, 0)
	if n := b.ok(call{what: symlink, dir: 1, name: "s", target: "../.."}); n != 2 {
		t.Error(n)
	}
	b.whys(call{what: lookup, dir: 2, name: "x"}, api.ErrDir)
	if text := b.do(call{what: readlink, node: 2}).text; text != "../.." {
		t.Errorf("%q", text)
	}
}

// The chapter's fourth example.
func TestExample4(t *testing.T) {
	b := grown(t, 20, 10)
	b.whys(call{what: rename, dir: 1, name: "a", to: 6, other: "x"}, api.ErrLoop)
	b.ok(call{what: rename, dir: 2, name: "b", to: 1, other: "b"})
	if n := b.ok(call{what: up, dir: 6}); n != 1 {
		t.Error(n)
	}
	b.whys(call{what: rename, dir: 1, name: "f", to: 1, other: "e"}, api.ErrKind)
	b.ok(call{what: rename, dir: 1, name: "b", to: 1, other: "e"})
	b.whys(call{what: stat, node: 5}, api.ErrNode)
	if n := b.ok(call{what: lookup, dir: 1, name: "e"}); n != 6 {
		t.Error(n)
	}
}

// 10.2, P10.2 to P10.8: which of two errors comes where both are there. There is no room for another inode, and for 6 bytes.
func TestWhichError(t *testing.T) {
	b := grown(t, 8, 10)
	long := strings.Repeat("x", 11)
	for _, x := range []struct {
		c   call
		why api.Errno
	}{
		{call{what: lookup, dir: 99, name: ".."}, api.ErrNode},
		{call{what: lookup, dir: 3, name: ".."}, api.ErrDir},
		{call{what: lookup, dir: 4, name: "x"}, api.ErrDir},
		{call{what: lookup, dir: 1, name: ".."}, api.ErrComponent},
		{call{what: lookup, dir: 1, name: "x"}, api.ErrMissing},

		{call{what: mkdir, dir: 99, name: "..", meta: bad}, api.ErrNode},
		{call{what: mkdir, dir: 3, name: "..", meta: bad}, api.ErrDir},
		{call{what: mkdir, dir: 1, name: "..", meta: bad}, api.ErrComponent},
		{call{what: mkdir, dir: 1, name: "f", meta: bad}, api.ErrArg},
		{call{what: mkdir, dir: 1, name: "x", meta: bad}, api.ErrArg},
		{call{what: mkdir, dir: 1, name: "f"}, api.ErrThere},
		{call{what: mkdir, dir: 1, name: "x"}, api.ErrSpace},
		{call{what: create, dir: 99, name: "..", meta: bad}, api.ErrNode},
		{call{what: create, dir: 4, name: "..", meta: bad}, api.ErrDir},
		{call{what: create, dir: 1, name: "..", meta: bad}, api.ErrComponent},
		{call{what: create, dir: 1, name: "f", meta: bad}, api.ErrArg},
		{call{what: create, dir: 1, name: "f"}, api.ErrThere},
		{call{what: create, dir: 1, name: "x"}, api.ErrSpace},
		{call{what: symlink, dir: 99, name: "..", meta: bad}, api.ErrNode},
		{call{what: symlink, dir: 3, name: "..", meta: bad}, api.ErrDir},
		{call{what: symlink, dir: 3, name: "x"}, api.ErrDir},
		{call{what: symlink, dir: 1, name: "..", meta: bad}, api.ErrComponent},
		{call{what: symlink, dir: 1, name: "f", meta: bad}, api.ErrTarget},
		{call{what: symlink, dir: 1, name: "x"}, api.ErrTarget},
		{call{what: symlink, dir: 1, name: "f", target: "t", meta: bad}, api.ErrArg},
		{call{what: symlink, dir: 1, name: "f", target: "t"}, api.ErrThere},
		{call{what: symlink, dir: 1, name: "x", target: "t"}, api.ErrSpace},

		{call{what: link, dir: 99, name: "..", node: 2}, api.ErrNode},
		{call{what: link, dir: 3, name: "..", node: 99}, api.ErrNode},
		{call{what: link, dir: 1, name: "..", node: 99}, api.ErrNode},
		{call{what: link, dir: 1, name: "f", node: 99}, api.ErrNode},
		{call{what: link, dir: 3, name: "..", node: 2}, api.ErrDir},
		{call{what: link, dir: 1, name: "..", node: 2}, api.ErrComponent},
		{call{what: link, dir: 1, name: "f", node: 2}, api.ErrThere},
		{call{what: link, dir: 1, name: "x", node: 2}, api.ErrKind},
		{call{what: link, dir: 1, name: "x", node: 1}, api.ErrKind},

		{call{what: read, node: 99, at: -1, n: -1}, api.ErrNode},
		{call{what: read, node: 1, at: -1}, api.ErrArg},
		{call{what: read, node: 4, n: -1}, api.ErrArg},
		{call{what: read, node: 1, n: 1}, api.ErrKind},
		{call{what: read, node: 4, n: 1}, api.ErrKind},
		{call{what: write, node: 99, at: -1}, api.ErrNode},
		{call{what: write, node: 1, at: -1, data: long}, api.ErrArg},
		{call{what: write, node: 3, at: api.MaxFile, data: "x"}, api.ErrArg},
		{call{what: write, node: 4, at: api.MaxFile + 1}, api.ErrArg},
		{call{what: write, node: 4, data: long}, api.ErrKind},
		{call{what: write, node: 1}, api.ErrKind},
		{call{what: write, node: 3, data: long}, api.ErrSpace},
		{call{what: resize, node: 99, n: -1}, api.ErrNode},
		{call{what: resize, node: 1, n: -1}, api.ErrArg},
		{call{what: resize, node: 3, n: api.MaxFile + 1}, api.ErrArg},
		{call{what: resize, node: 2, n: 11}, api.ErrKind},
		{call{what: resize, node: 4}, api.ErrKind},
		{call{what: resize, node: 3, n: 11}, api.ErrSpace},
		{call{what: readlink, node: 99}, api.ErrNode},
		{call{what: readlink, node: 3}, api.ErrKind},
		{call{what: change, node: 99, meta: bad}, api.ErrNode},
		{call{what: change, node: 1, meta: bad}, api.ErrArg},

		{call{what: unlink, dir: 99, name: ".."}, api.ErrNode},
		{call{what: unlink, dir: 3, name: ".."}, api.ErrDir},
		{call{what: unlink, dir: 1, name: ".."}, api.ErrComponent},
		{call{what: unlink, dir: 1, name: "x"}, api.ErrMissing},
		{call{what: unlink, dir: 1, name: "a"}, api.ErrKind},
		{call{what: unlink, dir: 1, name: "e"}, api.ErrKind},
		{call{what: rmdir, dir: 99, name: ".."}, api.ErrNode},
		{call{what: rmdir, dir: 4, name: ".."}, api.ErrDir},
		{call{what: rmdir, dir: 1, name: ".."}, api.ErrComponent},
		{call{what: rmdir, dir: 1, name: "x"}, api.ErrMissing},
		{call{what: rmdir, dir: 1, name: "f"}, api.ErrKind},
		{call{what: rmdir, dir: 1, name: "s"}, api.ErrKind},
		{call{what: rmdir, dir: 1, name: "a"}, api.ErrFull},

		{call{what: rename, dir: 99, name: "..", to: 3, other: ".."}, api.ErrNode},
		{call{what: rename, dir: 3, name: "..", to: 99, other: ".."}, api.ErrNode},
		{call{what: rename, dir: 3, name: "..", to: 1, other: ".."}, api.ErrDir},
		{call{what: rename, dir: 1, name: "..", to: 3, other: "x"}, api.ErrDir},
		{call{what: rename, dir: 1, name: "x", to: 4, other: "x"}, api.ErrDir},
		{call{what: rename, dir: 1, name: "..", to: 1, other: "x"}, api.ErrComponent},
		{call{what: rename, dir: 1, name: "x", to: 1, other: ".."}, api.ErrComponent},
		{call{what: rename, dir: 1, name: "a", to: 2, other: ".."}, api.ErrComponent},
		{call{what: rename, dir: 1, name: "x", to: 1, other: "a"}, api.ErrMissing},
		{call{what: rename, dir: 1, name: "x", to: 1, other: "x"}, api.ErrMissing},
		{call{what: rename, dir: 1, name: "a", to: 2, other: "g"}, api.ErrKind}, // a loop, too
		{call{what: rename, dir: 1, name: "f", to: 1, other: "a"}, api.ErrKind}, // and full
		{call{what: rename, dir: 1, name: "a", to: 2, other: "b"}, api.ErrLoop}, // and full
		{call{what: rename, dir: 1, name: "a", to: 2, other: "x"}, api.ErrLoop},
		{call{what: rename, dir: 1, name: "e", to: 1, other: "a"}, api.ErrFull},
	} {
		b.whys(x.c, x.why)
	}
}

// P10.2 to P10.8: numbers that none has, or none any more, in each of a call's places.
func TestNumbers(t *testing.T) {
	b := grown(t, 20, 10)
	b.ok(call{what: rmdir, dir: 1, name: "e"})
	for _, number := range []int{0, -1, math.MinInt, math.MaxInt, 5, 9, api.MaxNumber, 1 << 32, 1<<32 + 1, -2} {
		for _, what := range []string{lookup, mkdir, create, symlink, link, unlink, rmdir, rename} {
			b.whys(call{what: what, dir: number, name: "x", to: 1, other: "y", node: 3, target: "t"}, api.ErrNode)
		}
		for _, what := range []string{up, list, stat, read, write, resize, readlink, change} {
			b.whys(call{what: what, dir: number, node: number, n: 1}, api.ErrNode)
		}
		b.whys(call{what: link, dir: 1, name: "x", node: number}, api.ErrNode)
		b.whys(call{what: rename, dir: 1, name: "f", to: number, other: "y"}, api.ErrNode)
	}
}

// 10.1: which names can be, in each of a call's places.
func TestNames(t *testing.T) {
	b := grown(t, 40, 10)
	for _, name := range noNames {
		for _, what := range []string{lookup, mkdir, create, symlink, link, unlink, rmdir, rename} {
			b.whys(call{what: what, dir: 1, name: name, to: 1, other: "y", node: 3, target: "t"}, api.ErrComponent)
		}
		b.whys(call{what: rename, dir: 1, name: "f", to: 1, other: name}, api.ErrComponent)
	}
	for _, name := range goNames {
		for _, what := range []string{lookup, unlink, rmdir, rename} {
			b.whys(call{what: what, dir: 1, name: name, to: 1, other: name}, api.ErrMissing)
		}
		for _, what := range []string{mkdir, create, symlink} {
			made := b.ok(call{what: what, dir: 1, name: name, target: "t"})
			if n := b.ok(call{what: lookup, dir: 1, name: name}); n != made {
				t.Errorf("Lookup of %q: %d", name, n)
			}
			b.ok(call{what: rename, dir: 1, name: name, to: 5, other: name})
			b.ok(call{what: rename, dir: 5, name: name, to: 1, other: name})
			if what == mkdir {
				b.ok(call{what: rmdir, dir: 1, name: name})
			} else {
				b.ok(call{what: unlink, dir: 1, name: name})
			}
		}
		b.ok(call{what: link, dir: 1, name: name, node: 3})
	}
	b.all()
}

// 10.1: which targets can be; they are kept as they are.
func TestTargets(t *testing.T) {
	b := newBoth(t, 40, 10)
	for _, target := range []string{"", "\x00", "a\x00", "\x00a", t4097, t4096 + "\x00", t4096[1:] + "\x00"} {
		b.whys(call{what: symlink, dir: 1, name: "s", target: target}, api.ErrTarget)
	}
	for i, target := range []string{"x", ".", "..", "/", "//", "a/b", "../..", "\xff", "s", t4096, strings.Repeat("/", 4096)} {
		n := b.ok(call{what: symlink, dir: 1, name: strings.Repeat("s", i+1), target: target})
		if a := b.do(call{what: readlink, node: n}); a.text != target {
			t.Errorf("%.9q: %.9q", target, a.text)
		}
		if s := b.do(call{what: stat, node: n}).stat; s.Size != len(target) || s.Kind != api.Symlink {
			t.Error(s)
		}
	}
	b.all()
}

// 10.1: which metas can be, of all calls that are handed one; they are kept as they are.
func TestMetas(t *testing.T) {
	b := grown(t, 40, 10)
	can := []api.Meta{
		{}, {Mode: 4095}, {Nano: 999999999}, {Nano: 1}, {Mode: 4095, Nano: 999999999, Uid: math.MaxUint32, Gid: math.MaxUint32, Time: math.MaxInt64},
		{Time: math.MinInt64}, {Time: -1, Uid: 1 << 31, Gid: 1},
	}
	cant := []api.Meta{{Mode: 4096}, {Mode: math.MaxUint32}, {Nano: -1}, {Nano: math.MinInt32}, {Nano: 1000000000}, {Nano: math.MaxInt32}, {Mode: 4096, Nano: -1}}
	for _, m := range cant {
		for _, what := range []string{mkdir, create, symlink} {
			b.whys(call{what: what, dir: 1, name: "x", target: "t", meta: m}, api.ErrArg)
		}
		for node := 1; node <= 8; node++ {
			b.whys(call{what: change, node: node, meta: m}, api.ErrArg)
		}
	}
	for i, m := range can {
		for _, what := range []string{mkdir, create, symlink} {
			n := b.ok(call{what: what, dir: 5, name: what + strings.Repeat("x", i), target: "t", meta: m})
			if s := b.do(call{what: stat, node: n}).stat; s.Meta != m || s.Links != 1 || s.Size != len(b.m.inode(n).Target) {
				t.Error(s)
			}
		}
		for node := 1; node <= 8; node++ {
			b.ok(call{what: change, node: node, meta: m})
			if s := b.do(call{what: stat, node: node}).stat; s.Meta != m {
				t.Error(s)
			}
		}
	}
	b.all()
}

// P10.2: of the root, of a directory, a file and a symbolic link what is told.
func TestTold(t *testing.T) {
	b := grown(t, 20, 10)
	for node, want := range map[int]api.Stat{
		1: {Kind: 1, Links: 1, Size: 5}, 2: {Kind: 1, Links: 1, Size: 2}, 3: {Kind: 2, Links: 2, Size: 4},
		4: {Kind: 3, Links: 1, Size: 5}, 5: {Kind: 1, Links: 1}, 6: {Kind: 1, Links: 1, Size: 1}, 7: {Kind: 2, Links: 1},
	} {
		got, why := b.f.Stat(node)
		want.Node, want.Meta = node, b.m.inode(node).Meta
		if got != want || why != api.OK {
			t.Error(got, why)
		}
	}
	for dir, want := range map[int]int{1: 1, 2: 1, 5: 1, 6: 2, 8: 6} {
		if got, why := b.f.Up(dir); got != want || why != api.OK {
			t.Errorf("Up(%d): %d %d", dir, got, why)
		}
	}
	if got, why := b.f.List(1); told(got) != `"a" 2 "e" 5 "f" 3 "h" 3 "s" 4 ` || why != api.OK {
		t.Error(got, why)
	}
	if got, why := b.f.List(5); len(got) != 0 || why != api.OK {
		t.Error(got, why)
	}
	b.all()
}

// P10.2: List is byte by byte, in whatever order entries came, and however many they are.
func TestListOrder(t *testing.T) {
	b := newBoth(t, 500, 0)
	for i := range 255 {
		c := byte(255 - i*91%255)
		if c != '/' {
			b.ok(call{what: create, dir: 1, name: "n" + string([]byte{c})})
		}
	}
	for _, name := range []string{"n", "nnn", "m\xff", "o", "n\x01\x01"} {
		b.ok(call{what: mkdir, dir: 1, name: name})
	}
	b.all()
	l, _ := b.f.List(1)
	for i := range l[1:] {
		if l[i].Name >= l[i+1].Name {
			t.Errorf("%q, %q", l[i].Name, l[i+1].Name)
		}
	}
	if len(l) != 259 {
		t.Error(len(l))
	}
}

// P10.3, P10.9: room for inodes that is just enough, and that comes back when one is gone; for each kind.
func TestRoomForInodes(t *testing.T) {
	for _, what := range []string{mkdir, create, symlink} {
		b := newBoth(t, 1, 0)
		b.whys(call{what: what, dir: 1, name: "x", target: "t"}, api.ErrSpace)
		b = newBoth(t, 3, 0)
		b.ok(call{what: what, dir: 1, name: "x", target: "t"})
		b.ok(call{what: what, dir: 1, name: "y", target: "t"})
		b.whys(call{what: what, dir: 1, name: "z", target: "t"}, api.ErrSpace)
		away := unlink
		if what == mkdir {
			away = rmdir
		}
		b.ok(call{what: away, dir: 1, name: "x"})
		if n := b.ok(call{what: what, dir: 1, name: "z", target: "t"}); n != 4 {
			t.Errorf("%s: %d", what, n)
		}
		b.ok(call{what: rename, dir: 1, name: "z", to: 1, other: "y"})
		if n := b.ok(call{what: what, dir: 1, name: "z", target: "t"}); n != 5 {
			t.Errorf("%s: %d", what, n)
		}
		b.whys(call{what: what, dir: 1, name: "x", target: "t"}, api.ErrSpace)
	}
}

// P10.3: the most inodes that there may be, in one directory and one in the other.
func TestMostInodes(t *testing.T) {
	f, _ := vfs.New(api.MaxNodes, 0)
	g, _ := vfs.New(api.MaxNodes, 0)
	dir := 1
	for i := 2; i <= api.MaxNodes; i++ {
		name := "n" + strings.Repeat("x", i%250) + string(rune('a'+i/250))
		if n, why := f.Create(1, name, api.Meta{}); n != i || why != api.OK {
			t.Fatal(i, n, why)
		}
		var why api.Errno
		if dir, why = g.Mkdir(dir, "d", api.Meta{}); dir != i || why != api.OK {
			t.Fatal(i, dir, why)
		}
	}
	for _, x := range []*vfs.FS{f, g} {
		if n, why := x.Symlink(1, "one more", "t", api.Meta{}); n != 0 || why != api.ErrSpace {
			t.Error(n, why)
		}
		if nodes, _ := x.Free(); nodes != 0 {
			t.Error(nodes)
		}
		y, why := vfs.Load(x.Image())
		if why != api.OK || !vfs.Alike(x, 1, y, 1) {
			t.Error(why)
		}
	}
	if why := g.Rename(1, "d", dir, "d"); why != api.ErrLoop {
		t.Error(why)
	}
	if why := f.Link(1, "another name", 2); why != api.OK { // entries need no room
		t.Error(why)
	}
}

// P10.3: the last number that is given is one less than MaxNumber; of the errors it comes where that of no room does.
func TestLastNumber(t *testing.T) {
	x := api.Image{Nodes: 9, Bytes: 9, Next: api.MaxNumber - 1, List: []api.Node{{Number: 1, Kind: 1}}}
	for _, what := range []string{mkdir, create, symlink} {
		b := loaded(t, x)
		if n := b.ok(call{what: what, dir: 1, name: "x", target: "t"}); n != api.MaxNumber-1 {
			t.Error(n)
		}
		b.whys(call{what: what, dir: 1, name: "y", target: "t"}, api.ErrSpace)
		b.whys(call{what: what, dir: 1, name: "x", target: "t"}, api.ErrThere)
		b.whys(call{what: what, dir: 1, name: "x", target: "t", meta: bad}, api.ErrArg)
		b.do(call{what: unlink, dir: 1, name: "x"})
		b.do(call{what: rmdir, dir: 1, name: "x"})
		b.whys(call{what: what, dir: 1, name: "x", target: "t"}, api.ErrSpace)
		if b.f.Image().Next != api.MaxNumber {
			t.Error(b.f.Image().Next)
		}
	}
}

// P10.4, P10.7: entries of a file and of a symbolic link, down to the last one; its number and its bytes are gone with it.
func TestLinks(t *testing.T) {
	for _, node := range []int{7, 4} {
		b := grown(t, 20, 10)
		b.do(call{what: write, node: 7, data: "xyz"})
		names := []call{{dir: 2, name: "g"}, {dir: 1, name: "l"}, {dir: 5, name: "g"}, {dir: 8, name: "s"}}
		if node == 4 {
			names[0] = call{dir: 1, name: "s"}
		}
		for i, c := range names[1:] {
			b.ok(call{what: link, dir: c.dir, name: c.name, node: node})
			b.whys(call{what: link, dir: c.dir, name: c.name, node: node}, api.ErrThere)
			if s := b.do(call{what: stat, node: node}).stat; s.Links != i+2 {
				t.Error(s)
			}
		}
		for i, c := range names {
			if s := b.whys(call{what: stat, node: node}, api.OK).stat; s.Links != len(names)-i {
				t.Error(s)
			}
			b.ok(call{what: unlink, dir: c.dir, name: c.name})
			b.whys(call{what: unlink, dir: c.dir, name: c.name}, api.ErrMissing)
		}
		b.whys(call{what: stat, node: node}, api.ErrNode)
		b.whys(call{what: link, dir: 1, name: "again", node: node}, api.ErrNode)
		if n := b.ok(call{what: create, dir: 1, name: "new"}); n != 9 {
			t.Error(n)
		}
		b.all()
	}
}

// P10.7: a directory that had entries, and one that lies deep.
func TestRmdir(t *testing.T) {
	b := grown(t, 20, 10)
	b.whys(call{what: rmdir, dir: 2, name: "b"}, api.ErrFull)
	b.ok(call{what: rmdir, dir: 6, name: "c"})
	b.whys(call{what: mkdir, dir: 8, name: "x"}, api.ErrNode)
	b.ok(call{what: rmdir, dir: 2, name: "b"})
	b.whys(call{what: rmdir, dir: 1, name: "a"}, api.ErrFull)
	b.ok(call{what: unlink, dir: 2, name: "g"})
	b.ok(call{what: rmdir, dir: 1, name: "a"})
	for i, name := range []string{"a", "b", "c"} {
		if n := b.ok(call{what: mkdir, dir: 1, name: name}); n != 9+i {
			t.Error(n)
		}
	}
	b.all()
}

// A file system that no call made: what its calls answer is open, but they end.
func TestZeroEnds(t *testing.T) {
	var f vfs.FS
	for what := range ops {
		call{what: what, dir: 1, name: "x", to: 1, other: "y", node: 1, n: 1, data: "x", target: "t"}.do(&f)
	}
	for _, what := range []string{lookup, up, list, stat, read, readlink} {
		call{what: what, dir: 1, name: "x", node: 1, n: 1}.do(&f)
	}
	f.Clone().Forget()
	f.Image()
	f.Trace()
	f.Free()
	vfs.Alike(&f, 1, &f, 1)
}
