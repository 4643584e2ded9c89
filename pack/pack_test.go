package pack_test

import (
	"math"
	"strconv"
	"strings"
	"testing"

	"satchel/api"
	"satchel/pack"
	"satchel/path"
	"satchel/vfs"
	"satchel/walk"
)

// someMetaAt is a meta that is another one for each number, with all that a meta has.
func someMetaAt(i int) api.Meta {
	return api.Meta{Mode: uint32(i), Uid: uint32(500 + i), Gid: uint32(700 + i), Time: int64(i) - 3, Nano: int32(i + 1)}
}

// grown is a file system that lines make, each an inode or a name, numbered from 2 on as they stand: "d/" is a directory, "s -> t" a symbolic link, "h = f" another name, any other one a file that has its name as its bytes.
func grown(t *testing.T, lines ...string) *vfs.FS {
	t.Helper()
	f, _ := vfs.New(api.MaxNodes, api.MaxBytes)
	for i, line := range lines {
		m := someMetaAt(i)
		name, target, isLink := strings.Cut(line, " -> ")
		name, other, isName := strings.Cut(name, " = ")
		name, isDir := strings.CutSuffix(name, "/")
		parts := strings.Split(name, "/")
		last := parts[len(parts)-1]
		dir, _, why := walk.Find(f, 1, parts[:len(parts)-1])
		if why != api.OK {
			t.Fatalf("%s: %d", line, why)
		}
		node := 0
		switch {
		case isLink:
			_, why = f.Symlink(dir, last, target, m)
		case isName:
			why = f.Link(dir, last, at(f, other))
		case isDir:
			_, why = f.Mkdir(dir, last, m)
		default:
			node, why = f.Create(dir, last, m)
			f.Write(node, 0, []byte(name))
		}
		if why != api.OK {
			t.Fatalf("%s: %d", line, why)
		}
	}
	return f
}

// example is the chapter's tree.
func example(t *testing.T) *vfs.FS { return grown(t, "a/", "b", "l -> b", "a/c = b", "a/d") }

// house is a file system with a top, "t" (2), and what lies outside of it: links in top lead out in all ways, and files and links have names in and outside.
func house(t *testing.T) *vfs.FS {
	return grown(t,
		"t/", "out/", "out/d/", "out/d/f", "out/f", "f", "s -> t", "a", "z",
		"t/d/", "t/d/e/", "t/f", "t/d/g",
		"t/up -> ..", "t/out -> ../out", "t/root -> /", "t/file -> ../f", "t/d/up -> ../..", "t/d/e/up -> ../../../out/d", "t/loop -> loop", "t/in -> d", "t/dead -> none",
		"t/h = f", "t/d/h = out/d/f", "out/h = t/d/g", "out/d/link = t/up", "t/link = s", "t/d/link = s", "t/d/h2 = out/d/f", "t/zz = a", "t/b = z", "t/zzz = a",
	)
}

// at is the inode that a name names; 0, if it names none.
func at(f *vfs.FS, name string) int {
	parts, why := path.Split(name)
	if why != api.OK {
		return 0
	}
	node, _, _ := walk.Find(f, 1, parts)
	return node
}

// told is a list as a text: each entry's name behind a blank, with a slash behind a directory's, "->" and the target behind a symbolic link's, "=" and the other name behind a hard link's.
func told(list []api.Packed) string {
	text := ""
	for _, x := range list {
		text += " " + x.Entry.Name
		switch x.Entry.Kind {
		case api.Dir:
			text += "/"
		case api.Symlink:
			text += "->" + x.Entry.Link
		case api.HardLink:
			text += "=" + x.Entry.Link
		}
	}
	return text
}

// tells packs a tree, which must come to that text.
func (h held) tells(top int, p api.Packing, want string) {
	h.t.Helper()
	if list, why := h.tree(top, p); why != api.OK || told(list) != want {
		h.t.Errorf("Tree(%d, %+v): %s %d, not %s", top, p, told(list), why, want)
	}
}

// treeWhys packs a tree, which must have that error.
func (h held) treeWhys(top int, p api.Packing, want api.Errno) {
	h.t.Helper()
	if list, why := h.tree(top, p); why != want {
		h.t.Errorf("Tree(%d, %+v): %d entries %d, not %d", top, p, len(list), why, want)
	}
}

// oneWhys packs one name, which must have that error.
func (h held) oneWhys(top int, parts []string, want api.Errno) {
	h.t.Helper()
	for _, p := range packings() {
		if x, why := h.one(top, parts, p); why != want {
			h.t.Errorf("One(%d, %.100q, %+v): %s %d, not %d", top, parts, p, brief(x), why, want)
		}
	}
}

// P21.1, P21.2: the chapter's examples.
func TestExamples(t *testing.T) {
	h := held{t, example(t)}
	h.tells(1, api.Packing{}, " a/ a/c a/d b=a/c l->b")
	h.tells(1, api.Packing{Apart: true}, " a/ a/c a/d b l->b")
	x, why := h.one(1, []string{"b"}, api.Packing{})
	want := api.Packed{Entry: api.Entry{Name: "b", Kind: api.File, Meta: someMetaAt(1), Size: 1}, Data: []byte("b")}
	if why != api.OK || !samePacked(x, want) {
		t.Error(x, why)
	}
	h.oneWhys(1, []string{"x"}, api.ErrNone)
	h.oneWhys(1, []string{".."}, api.ErrDots)
	h.treeWhys(3, api.Packing{}, api.ErrNotDir)
	h.treeWhys(99, api.Packing{}, api.ErrOutside)
}

// P21.1 to P21.3: a top that is no inode, a file, a symbolic link (to a directory, too), a directory, an empty one.
func TestTops(t *testing.T) {
	h := held{t, grown(t, "d/", "d/e/", "d/e/f", "f", "s -> d", "s2 -> .", "d/s -> e", "empty/", "d/h = f")}
	for _, p := range packings() {
		for _, top := range []int{0, -1, 11, 99, math.MaxInt, math.MinInt, api.MaxNumber, -2} {
			h.treeWhys(top, p, api.ErrOutside)
		}
		for _, name := range []string{"f", "s", "s2", "d/s", "d/e/f", "d/h"} {
			h.treeWhys(at(h.f, name), p, api.ErrNotDir)
		}
		h.tells(at(h.f, "empty"), p, "")
		h.tells(at(h.f, "d/e"), p, " f")
	}
	h.tells(at(h.f, "d"), api.Packing{}, " e/ e/f h s->e")
	h.tells(1, api.Packing{}, " d/ d/e/ d/e/f d/h d/s->e empty/ f=d/h s->d s2->.")
	for _, top := range []int{0, -1, 11, 99, math.MaxInt, math.MinInt, api.MaxNumber} {
		h.oneWhys(top, []string{"f"}, api.ErrOutside)
	}
	for _, name := range []string{"f", "s", "d/s"} {
		h.oneWhys(at(h.f, name), []string{"f"}, api.ErrNotDir)
	}
	h.oneWhys(at(h.f, "empty"), []string{"f"}, api.ErrNone)
	f, _ := vfs.New(1, 0)
	for _, p := range packings() {
		held{t, f}.tells(1, p, "")
	}
}

// P21.1, P21.2: each kind's entry, with its meta, and what is empty of it.
func TestKinds(t *testing.T) {
	h := held{t, grown(t, "d/", "d/f", "h = d/f", "s -> d/f")}
	full := api.Meta{Mode: 0o7777, Uid: math.MaxUint32, Gid: math.MaxUint32 - 1, Time: math.MinInt64, Nano: 999999999}
	for _, name := range []string{"d", "d/f", "s"} {
		h.f.Change(at(h.f, name), full)
	}
	for _, x := range []struct {
		p    api.Packing
		want api.Meta
	}{
		{api.Packing{}, full},
		{api.Packing{NoTimes: true}, api.Meta{Mode: full.Mode, Uid: full.Uid, Gid: full.Gid}},
		{api.Packing{NoOwners: true}, api.Meta{Mode: full.Mode, Time: full.Time, Nano: full.Nano}},
		{api.Packing{NoTimes: true, NoOwners: true}, api.Meta{Mode: full.Mode}},
	} {
		m := x.want
		dir := api.Packed{Entry: api.Entry{Name: "d", Kind: api.Dir, Meta: m}}
		file := api.Packed{Entry: api.Entry{Name: "d/f", Kind: api.File, Meta: m, Size: 3}, Data: []byte("d/f")}
		hard := api.Packed{Entry: api.Entry{Name: "h", Kind: api.HardLink, Meta: m, Link: "d/f"}}
		same := api.Packed{Entry: api.Entry{Name: "h", Kind: api.File, Meta: m, Size: 3}, Data: []byte("d/f")}
		link := api.Packed{Entry: api.Entry{Name: "s", Kind: api.Symlink, Meta: m, Link: "d/f"}}
		want := []api.Packed{dir, file, hard, link}
		if list, why := h.tree(1, x.p); why != api.OK || !sameList(list, want) {
			t.Errorf("%+v: %s %d", x.p, brief(list), why)
		}
		x.p.Apart = true
		want[2] = same
		if list, why := h.tree(1, x.p); why != api.OK || !sameList(list, want) {
			t.Errorf("%+v: %s %d", x.p, brief(list), why)
		}
		for _, x.p.Apart = range []bool{false, true} {
			for i, parts := range [][]string{{"d"}, {"d", "f"}, {"h"}, {"s"}} {
				if one, why := h.one(1, parts, x.p); why != api.OK || !samePacked(one, want[i]) {
					t.Errorf("%+v: %s %d", x.p, brief(one), why)
				}
			}
		}
	}
}

// P21.1, P21.3: files of no bytes, under one name and under several.
func TestEmptyFiles(t *testing.T) {
	h := held{t, grown(t, "d/", "d/f", "h = d/f", "e", "one", "s -> e")}
	h.f.Resize(at(h.f, "d/f"), 0)
	h.f.Resize(at(h.f, "e"), 0)
	h.tells(1, api.Packing{}, " d/ d/f e h=d/f one s->e")
	for _, p := range packings() {
		list, _ := h.tree(1, p)
		for _, x := range list {
			if size := int64(len(x.Data)); x.Entry.Size != size || size > 0 && x.Entry.Name != "one" {
				t.Error(brief(x))
			}
		}
		if n, size, why := pack.Sizes(h.f, 1, p); n != 6 || size != 3 || why != api.OK {
			t.Error(n, size, why)
		}
	}
	if x, why := h.one(1, []string{"e"}, api.Packing{}); why != api.OK || x.Entry.Kind != api.File || x.Entry.Size != 0 || len(x.Data) > 0 {
		t.Error(brief(x), why)
	}
}

// P21.1: files with several names: the first one in path.Compare's order is a File, whichever was made first and wherever others are.
func TestNames(t *testing.T) {
	for _, x := range []struct {
		lines             string
		top               string
		want, apart, size string
	}{
		{"f, a = f", "", " a f=a", " a f", "2 1 2"},
		{"a, f = a", "", " a f=a", " a f", "2 1 2"},
		{"d/, d/z, d/a = d/z, d/m = d/z", "", " d/ d/a d/m=d/a d/z=d/a", " d/ d/a d/m d/z", "4 3 9"},
		{"d/, e/, e/a, d/z = e/a, m = d/z", "", " d/ d/z e/ e/a=d/z m=d/z", " d/ d/z e/ e/a m", "5 3 9"},
		{"a.b, a/, a/c = a.b", "", " a/ a/c a.b=a/c", " a/ a/c a.b", "3 3 6"}, // as texts they stand the other way about
		{"d/, d-, d/a = d-, d.a = d-", "", " d/ d/a d-=d/a d.a=d/a", " d/ d/a d- d.a", "4 2 6"},
		{"t/, t/f, a = t/f", "t", " f", " f", "1 3 3"}, // one name in the tree: the first of all, and the last of all, is outside
		{"t/, t/f, z = t/f", "t", " f", " f", "1 3 3"},
		{"a, t/, t/f = a, t/e = a, z = a", "t", " e f=e", " e f", "2 1 2"},
		{"t/, t/z, a = t/z, t/d/, t/d/a = a, t/d/b = a, z = a", "t", " d/ d/a d/b=d/a z=d/a", " d/ d/a d/b z", "4 3 9"},
		{"f, g, a = g, b = f, c = g, d = f", "", " a b c=a d=b f=b g=a", " a b c d f g", "6 2 6"},
		{"a, B, \xff, b = \xff, c = a", "", " B a b c=a \xff=b", " B a b c \xff", "5 3 5"},
	} {
		h := held{t, grown(t, strings.Split(x.lines, ", ")...)}
		top := 1
		if x.top != "" {
			top = at(h.f, x.top)
		}
		h.tells(top, api.Packing{}, x.want)
		h.tells(top, api.Packing{Apart: true}, x.apart)
		n, size, _ := pack.Sizes(h.f, top, api.Packing{})
		_, apart, _ := pack.Sizes(h.f, top, api.Packing{Apart: true})
		if got := strconv.Itoa(n) + " " + strconv.Itoa(int(size)) + " " + strconv.Itoa(int(apart)); got != x.size {
			t.Errorf("%s: %s, not %s", x.lines, got, x.size)
		}
		h.whole(top)
		h.whole(1)
	}
}

// P21.1: the entries under a file's further names have its meta as well, but neither its size nor its bytes; with Apart they have all of it.
func TestFurtherNames(t *testing.T) {
	h := held{t, house(t)}
	h.whole(2)
	h.whole(1)
	list, _ := h.tree(2, api.Packing{})
	byName := make(map[string]api.Packed)
	for _, x := range list {
		byName[x.Entry.Name] = x
	}
	first, second := byName["d/h"], byName["d/h2"]
	if first.Entry.Kind != api.File || first.Entry.Size != 7 || string(first.Data) != "out/d/f" || first.Entry.Link != "" {
		t.Error(brief(first))
	}
	want := api.Entry{Name: "d/h2", Kind: api.HardLink, Meta: first.Entry.Meta, Link: "d/h"}
	if second.Entry != want || len(second.Data) > 0 {
		t.Error(brief(second))
	}
	if x := byName["h"]; x.Entry.Kind != api.File { // its other name is outside
		t.Error(brief(x))
	}
}

// P21.1: of a symbolic link with several names each is a Symlink.
func TestLinkNames(t *testing.T) {
	h := held{t, grown(t, "d/", "s -> d", "a = s", "d/s = s", "d/z = s", "z = s")}
	want := " a->d d/ d/s->d d/z->d s->d z->d"
	for _, p := range packings() {
		h.tells(1, p, want)
	}
	h.tells(2, api.Packing{}, " s->d z->d")
	h.whole(1)
}

// P21.1: the order of the names, of all bytes that a name may have.
func TestOrder(t *testing.T) {
	h := held{t, grown(t, "b", "a/", "a/b", "a-", "a.", "a0", "a/\xff", "a/\x01", "A", "\x01", "\xfe", "\xc3\xa4", "aa", "a/aa/", "a/aa/z", "a/a.", "a/a/")}
	h.tells(1, api.Packing{}, " \x01 A a/ a/\x01 a/a/ a/a. a/aa/ a/aa/z a/b a/\xff a- a. a0 aa b \xc3\xa4 \xfe")
	h.whole(1)
}
