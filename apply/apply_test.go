package apply_test

import (
	"math"
	"strings"
	"testing"

	"satchel/api"
	"satchel/apply"
	"satchel/vfs"
	"satchel/walk"
)

// ways are all that a policy says of what is there.
var ways = []int{api.Keep, api.Replace, api.Skip}

// grown is a file system that lines make, each an inode or a name, numbered from 2 on as they stand: "d/" is a directory, "s -> t" a symbolic link, "h = f" another name, any other one a file whose bytes are its name.
func grown(t *testing.T, lines ...string) *vfs.FS {
	t.Helper()
	f, _ := vfs.New(api.MaxNodes, api.MaxBytes)
	for i, line := range lines {
		m := api.Meta{Mode: uint32(i), Uid: 5, Time: int64(i)}
		name, target, isLink := strings.Cut(line, " -> ")
		name, other, isName := strings.Cut(name, " = ")
		name, isDir := strings.CutSuffix(name, "/")
		parts := strings.Split(name, "/")
		last := parts[len(parts)-1]
		dir, _, why := walk.Find(f, 1, parts[:len(parts)-1])
		if why != api.OK {
			t.Fatalf("%s: %d", line, why)
		}
		node := 0
		switch {
		case isLink:
			_, why = f.Symlink(dir, last, target, m)
		case isName:
			node, _, _ = walk.Find(f, 1, strings.Split(other, "/"))
			why = f.Link(dir, last, node)
		case isDir:
			_, why = f.Mkdir(dir, last, m)
		default:
			node, why = f.Create(dir, last, m)
			f.Write(node, 0, []byte(name))
		}
		if why != api.OK {
			t.Fatalf("%s: %d", line, why)
		}
	}
	return f
}

// example is the chapter's tree.
func example(t *testing.T) *vfs.FS { return grown(t, "d/", "s -> /etc", "f") }

// tree has a directory, a symbolic link and a file at each of three depths, and files with two names.
func tree(t *testing.T) *vfs.FS {
	return grown(t, "d/", "s -> /etc", "f", "d/d/", "d/s -> ../f", "d/f", "d/d/d/", "d/d/s -> ..", "d/d/f", "d/d/d/f", "g", "d/h = f", "h = d/f", "l -> d", "d/d/l = l")
}

// room gives a file system room for so many more inodes and bytes.
func room(t *testing.T, f *vfs.FS, nodes, bytes int) held {
	t.Helper()
	image := f.Image()
	image.Nodes, image.Bytes = len(image.List)+nodes, bytes
	for _, n := range image.List {
		image.Bytes += len(n.Data)
	}
	g, why := vfs.Load(image)
	if why != api.OK {
		t.Fatal(why)
	}
	return held{t, g}
}

// bytesAt is the bytes of the file that a name names, or a text that tells what else is there.
func bytesAt(f *vfs.FS, name string) string {
	node, _, why := walk.Find(f, 1, strings.Split(name, "/"))
	b, other := f.Read(node, 0, api.MaxFile)
	if why != api.OK || other != api.OK {
		return "no file: " + (why + other).Error()
	}
	return string(b)
}

// P19.2: the chapter's examples.
func TestExamples(t *testing.T) {
	keep, replace := api.Policy{}, api.Policy{There: api.Replace}
	parents, leaving := api.Policy{Parents: true}, api.Policy{Leaving: true}
	try := func(e api.Entry, p api.Policy, want api.Done, why api.Errno) *vfs.FS {
		t.Helper()
		h := held{t, example(t)}
		if got, e2 := h.apply(1, e, nil, p); got != want || e2 != why {
			t.Errorf("%+v %+v: %+v %d", e, p, got, e2)
		}
		return h.f
	}
	none := api.Done{}
	try(file("s/x", 0), keep, none, api.ErrInWay)
	try(file("../x", 0), keep, none, api.ErrDots)
	try(file("n/x", 0), keep, none, api.ErrNone)
	try(file("n/x", 0), parents, api.Done{Node: 6, Made: 1}, api.OK)
	try(file("s", 0), keep, none, api.ErrThere)
	f := try(file("s", 0), replace, api.Done{Node: 5, Replaced: true}, api.OK)
	if _, why := f.Stat(3); why != api.ErrNode {
		t.Error("the link is there still")
	}

	try(symlink("d/l", "../f"), keep, api.Done{Node: 5}, api.OK)
	try(symlink("d/l", "../../f"), keep, none, api.ErrUnsafe)
	try(symlink("d/l", "../../f"), leaving, api.Done{Node: 5}, api.OK)

	f = try(hard("h", "f"), keep, api.Done{Node: 4}, api.OK)
	if is, _ := f.Stat(4); is.Links != 2 {
		t.Error(is)
	}
	try(hard("h", "s"), keep, none, api.ErrLink)
	try(hard("h", "s/x"), keep, none, api.ErrInWay)
	try(hard("h", "d"), keep, none, api.ErrLink)
	f = try(hard("f", "f"), keep, api.Done{Node: 4}, api.OK)
	if len(f.Trace()) != len(example(t).Trace()) {
		t.Error(f.Trace())
	}

	e := directory("d")
	e.Meta = api.Meta{Mode: 448, Uid: 1, Gid: 2, Time: 3, Nano: 4}
	f = try(e, keep, api.Done{Node: 2}, api.OK)
	if is, _ := f.Stat(2); is.Meta != e.Meta {
		t.Error(is)
	}
	f = try(directory("f"), replace, api.Done{Node: 5, Replaced: true}, api.OK)
	if _, why := f.Stat(4); why != api.ErrNode {
		t.Error("the file is there still")
	}
	try(file("d", 0), replace, none, api.ErrThere)
	try(api.Entry{Name: "x", Kind: api.Device}, keep, none, api.ErrOdd)
}

// P19.2: tops that are no inode, files and symbolic links, with all that could go wrong further on; and directories.
func TestTop(t *testing.T) {
	h := held{t, tree(t)}
	entries := []api.Entry{directory("n"), file("f", 0), file("n/x", 0), file("s/x", 0), file("f/x", 0), symlink("n", "x"), hard("h", "none"), hard("f", "f")}
	h.unchanged("no top", func() {
		for _, e := range entries {
			for _, there := range ways {
				for _, parents := range []bool{false, true} {
					p := api.Policy{There: there, Parents: parents}
					for _, top := range []int{0, -1, 14, 99, math.MaxInt, math.MinInt, api.MaxNumber} {
						h.whys(top, e, nil, p, api.ErrOutside)
					}
					for _, top := range []int{3, 4, 6, 7, 9, 11, 13} {
						h.whys(top, e, nil, p, api.ErrNotDir)
					}
				}
			}
		}
	})
	for i, top := range []int{1, 2, 5, 8} {
		h.ok(top, file("new", 3), []byte("abc"), api.Policy{}, api.Done{Node: 14 + i})
		if node, why := h.f.Lookup(top, "new"); node != 14+i || why != api.OK {
			t.Error(top, node, why)
		}
	}
	// A top that is gone is no inode.
	h = held{t, example(t)}
	h.f.Rmdir(1, "d")
	h.whys(2, directory("a"), nil, api.Policy{Parents: true}, api.ErrOutside)
}

// P19.2: the directory, that is there, is missing, is a file or is a symbolic link, at the first, a middle and the last place.
func TestDirectory(t *testing.T) {
	const made = api.OK
	for _, x := range []struct {
		dir     string
		without api.Errno
		with    api.Errno
		made    int
	}{
		{"", api.OK, made, 0},
		{"d/", api.OK, made, 0},
		{"d/d/", api.OK, made, 0},
		{"d/d/d/", api.OK, made, 0},
		{"./d//d/.//", api.OK, made, 0},
		{"n/", api.ErrNone, made, 1},
		{"n/n/", api.ErrNone, made, 2},
		{"n/d/s/f/", api.ErrNone, made, 4},
		{"d/n/", api.ErrNone, made, 1},
		{"d/n/d/", api.ErrNone, made, 2},
		{"d/d/n/", api.ErrNone, made, 1},
		{"d/d/d/n/n/n/", api.ErrNone, made, 3},
		{"f/", api.ErrNotDir, api.ErrNotDir, 0},
		{"f/d/", api.ErrNotDir, api.ErrNotDir, 0},
		{"f/d/d/", api.ErrNotDir, api.ErrNotDir, 0},
		{"d/f/", api.ErrNotDir, api.ErrNotDir, 0},
		{"d/f/d/", api.ErrNotDir, api.ErrNotDir, 0},
		{"d/d/f/", api.ErrNotDir, api.ErrNotDir, 0},
		{"d/d/f/n/n/", api.ErrNotDir, api.ErrNotDir, 0},
		{"s/", api.ErrInWay, api.ErrInWay, 0},
		{"s/d/", api.ErrInWay, api.ErrInWay, 0},
		{"s/d/d/", api.ErrInWay, api.ErrInWay, 0},
		{"l/", api.ErrInWay, api.ErrInWay, 0}, // though it points to a directory
		{"l/d/", api.ErrInWay, api.ErrInWay, 0},
		{"d/s/", api.ErrInWay, api.ErrInWay, 0},
		{"d/s/d/", api.ErrInWay, api.ErrInWay, 0},
		{"d/d/s/", api.ErrInWay, api.ErrInWay, 0},
		{"d/d/s/n/n/", api.ErrInWay, api.ErrInWay, 0},
		{"d/d/l/", api.ErrInWay, api.ErrInWay, 0},
	} {
		for _, there := range ways {
			for _, e := range []api.Entry{file(x.dir+"x", 0), directory(x.dir + "x"), symlink(x.dir+"x", "y"), hard(x.dir+"x", "g")} {
				next := api.Done{Node: 14}
				if e.Kind == api.HardLink {
					next.Node = 12
				}
				h, p := held{t, tree(t)}, api.Policy{There: there}
				if x.without == api.OK {
					h.ok(1, e, nil, p, next)
				} else {
					h.unchanged(e.Name, func() { h.whys(1, e, nil, p, x.without) })
				}
				h, p.Parents = held{t, tree(t)}, true
				if x.with != made {
					h.unchanged(e.Name, func() { h.whys(1, e, nil, p, x.with) })
					continue
				}
				next.Made = x.made
				if e.Kind != api.HardLink {
					next.Node += x.made
				}
				h.ok(1, e, nil, p, next)
				for i := range x.made {
					if is, why := h.f.Stat(14 + i); why != api.OK || is.Kind != api.Dir || is.Meta != (api.Meta{Mode: 0o755}) {
						t.Errorf("%s: %+v %d", e.Name, is, why)
					}
				}
			}
		}
	}
}

// P19.2: each kind onto nothing, a directory, a file, a symbolic link, with Keep, Replace and Skip.
func TestThere(t *testing.T) {
	skipped := api.Done{Skipped: true}
	data := []byte("data")
	for _, dir := range []string{"", "d/", "d/d/"} {
		for _, e := range []api.Entry{directory(""), file("", 4), symlink("", "x"), hard("", "g")} {
			e.Meta = api.Meta{Mode: 0o7777, Uid: 1, Gid: 2, Time: -3, Nano: 4}
			node := 14
			if e.Kind == api.HardLink {
				node = 12
			}
			for _, p := range []api.Policy{{}, {Parents: true}, {Mask: 0o22, Leaving: true}, {Parents: true, Mask: math.MaxUint32}} {
				try := func(name string, there int) (held, api.Entry, api.Policy) {
					e.Name, p.There = dir+name, there
					return held{t, tree(t)}, e, p
				}
				for _, there := range ways {
					h, e, p := try("n", there)
					h.ok(1, e, data, p, api.Done{Node: node})
				}
				for _, name := range []string{"f", "s"} {
					h, e, p := try(name, api.Keep)
					h.unchanged(name, func() { h.whys(1, e, data, p, api.ErrThere) })
					h, e, p = try(name, api.Replace)
					h.ok(1, e, data, p, api.Done{Node: node, Replaced: true})
					h, e, p = try(name, api.Skip)
					h.unchanged(name, func() { h.ok(1, e, data, p, skipped) })
				}
				for _, there := range []int{api.Keep, api.Replace} {
					h, e, p := try("d", there)
					if e.Kind != api.Dir {
						h.unchanged("d", func() { h.whys(1, e, data, p, api.ErrThere) })
						continue
					}
					node, _, _ := walk.Find(h.f, 1, strings.Split(e.Name, "/"))
					h.ok(1, e, data, p, api.Done{Node: node})
					want := e.Meta
					want.Mode &^= p.Mask
					if is, _ := h.f.Stat(node); is.Meta != want {
						t.Error(is, want)
					}
				}
				h, e, p := try("d", api.Skip)
				h.unchanged("d", func() { h.ok(1, e, data, p, skipped) })
			}
		}
	}
}

// P19.2: the meta of what is made: the entry's, without the mask's bits; a hard link has none of its own.
func TestMetas(t *testing.T) {
	m := api.Meta{Mode: 0o16777, Uid: math.MaxUint32, Gid: 7, Time: math.MinInt64, Nano: 999999999}
	want := m
	want.Mode = 0o6754
	p := api.Policy{Parents: true, Mask: 0o10023}
	for _, e := range []api.Entry{directory("n/x"), file("n/x", 0), symlink("n/x", "y")} {
		e.Meta = m
		h := held{t, example(t)}
		h.ok(1, e, nil, p, api.Done{Node: 6, Made: 1})
		if is, _ := h.f.Stat(6); is.Meta != want {
			t.Errorf("%+v", is)
		}
		if is, _ := h.f.Stat(5); is.Meta != (api.Meta{Mode: 493}) { // no mask for the directories ahead
			t.Errorf("%+v", is)
		}
	}
	h := held{t, example(t)}
	was, _ := h.f.Stat(4)
	e := hard("n/x", "f")
	e.Meta = m
	h.ok(1, e, nil, p, api.Done{Node: 4, Made: 1})
	if is, _ := h.f.Stat(4); is.Meta != was.Meta || is.Links != 2 {
		t.Errorf("%+v", is)
	}
}

// P19.2: hard links to a file, a directory, a symbolic link, nothing, what lies below such; all of it ahead of what is there.
func TestHardLinks(t *testing.T) {
	for _, x := range []struct {
		link string
		node int
		why  api.Errno
	}{
		{"f", 4, api.OK},
		{"./f/", 4, api.OK},
		{"d/f", 7, api.OK},
		{"d//d/./f", 10, api.OK},
		{"d/h", 4, api.OK},
		{"d", 0, api.ErrLink},
		{"d/d/d", 0, api.ErrLink},
		{"s", 0, api.ErrLink},
		{"l", 0, api.ErrLink},
		{"d/s", 0, api.ErrLink}, // though it points to a file
		{"d/d/s", 0, api.ErrLink},
		{"n", 0, api.ErrNone},
		{"d/n", 0, api.ErrNone},
		{"n/n", 0, api.ErrNone},
		{"s/x", 0, api.ErrInWay},
		{"l/f", 0, api.ErrInWay},
		{"d/s/f", 0, api.ErrInWay},
		{"d/d/s/d/f", 0, api.ErrInWay},
		{"f/x", 0, api.ErrNotDir},
		{"d/f/x/y", 0, api.ErrNotDir},
	} {
		for _, there := range ways {
			for _, name := range []string{"x", "d/x", "d", "g", "s", "d/s"} {
				h := held{t, tree(t)}
				p := api.Policy{There: there, Parents: true}
				if x.why != api.OK {
					h.unchanged(x.link, func() { h.whys(1, hard(name, x.link), nil, p, x.why) })
					continue
				}
				done, why := h.apply(1, hard(name, x.link), nil, p)
				isNew := name == "x" || name == "d/x"
				switch {
				case isNew || there == api.Replace && name != "d":
					if why != api.OK || done != (api.Done{Node: x.node, Replaced: !isNew}) {
						t.Errorf("%s to %s: %+v %d", name, x.link, done, why)
					}
				case there == api.Skip:
					if why != api.OK || done != (api.Done{Skipped: true}) {
						t.Errorf("%s to %s: %+v %d", name, x.link, done, why)
					}
				case why != api.ErrThere:
					t.Errorf("%s to %s: %+v %d", name, x.link, done, why)
				}
			}
			// The directory is made ahead of looking for the file, and stays.
			h := held{t, tree(t)}
			if done, why := h.apply(1, hard("m/m/x", x.link), nil, api.Policy{There: there, Parents: true}); why != x.why || why == api.OK && done != (api.Done{Node: x.node, Made: 2}) {
				t.Errorf("%s: %+v %d", x.link, done, why)
			}
			if node, _, why := walk.Find(h.f, 1, []string{"m", "m"}); node != 15 || why != api.OK {
				t.Errorf("%s: %d %d", x.link, node, why)
			}
		}
	}
}

// P19.2: hard links to the very inode that the name names: nothing is done; with Skip it is left out.
func TestHardLinksToThemselves(t *testing.T) {
	for _, x := range []struct {
		name, link string
		node       int
	}{
		{"f", "f", 4}, {"f", "d/h", 4}, {"d/h", "f", 4}, {"d/h", "./d/h", 4}, {"h", "d/f", 7}, {"d/f", "h", 7}, {"d/d/d/f", "d/d/d/f", 11},
	} {
		h := held{t, tree(t)}
		h.unchanged(x.name, func() {
			for _, parents := range []bool{false, true} {
				h.ok(1, hard(x.name, x.link), nil, api.Policy{Parents: parents}, api.Done{Node: x.node})
				h.ok(1, hard(x.name, x.link), nil, api.Policy{Parents: parents, There: api.Replace}, api.Done{Node: x.node})
				h.ok(1, hard(x.name, x.link), nil, api.Policy{Parents: parents, There: api.Skip}, api.Done{Skipped: true})
			}
		})
	}
	// Not to a symbolic link, even of that name; nor to a directory; nor to what is made only now.
	h := held{t, tree(t)}
	h.unchanged("no files", func() {
		for _, there := range ways {
			h.whys(1, hard("s", "s"), nil, api.Policy{There: there}, api.ErrLink)
			h.whys(1, hard("d/d/l", "l"), nil, api.Policy{There: there}, api.ErrLink)
			h.whys(1, hard("d", "d"), nil, api.Policy{There: there}, api.ErrLink)
			h.whys(1, hard("n", "n"), nil, api.Policy{There: there, Parents: true}, api.ErrNone)
			h.whys(1, hard("f/x", "f"), nil, api.Policy{There: there, Parents: true}, api.ErrNotDir)
		}
	})
	h.whys(1, hard("n/n", "n"), nil, api.Policy{Parents: true}, api.ErrLink)
	h.whys(1, hard("m/n", "m/n"), nil, api.Policy{Parents: true}, api.ErrNone)
	for _, name := range []string{"n", "m"} {
		if list, why := h.f.List(lookup(h.f, name)); len(list) != 0 || why != api.OK {
			t.Errorf("%s: %v %d", name, list, why)
		}
	}
}

func lookup(f *vfs.FS, name string) int {
	node, _ := f.Lookup(1, name)
	return node
}

// P19.2: a hard link from another top: names begin there.
func TestHardLinksInTop(t *testing.T) {
	h := held{t, tree(t)}
	h.ok(2, hard("x", "f"), nil, api.Policy{}, api.Done{Node: 7})
	h.ok(5, hard("x", "d/f"), nil, api.Policy{}, api.Done{Node: 11})
	h.whys(2, hard("y", "g"), nil, api.Policy{}, api.ErrNone)
	h.whys(8, hard("y", "d/f"), nil, api.Policy{}, api.ErrNone)
}

// P19.2: files of no bytes: they are not written.
func TestNoBytes(t *testing.T) {
	for _, data := range [][]byte{nil, {}, make([]byte, 0, 9)} {
		for _, there := range ways {
			h := held{t, example(t)}
			h.f.Forget()
			h.ok(1, file("x", 0), data, api.Policy{There: there}, api.Done{Node: 5})
			if acts := h.f.Trace(); len(acts) != 1 || acts[0] != (api.Act{Op: api.OpCreate, Dir: 1, Name: "x", Node: 5}) {
				t.Errorf("%+v", acts)
			}
		}
		h := held{t, example(t)}
		h.f.Forget()
		h.ok(1, file("f", 0), data, api.Policy{There: api.Replace}, api.Done{Node: 5, Replaced: true})
		if acts := h.f.Trace(); len(acts) != 2 || bytesAt(h.f, "f") != "" {
			t.Errorf("%+v %q", acts, bytesAt(h.f, "f"))
		}
	}
	// Of anything else the data play no part.
	h := held{t, example(t)}
	for i, e := range []api.Entry{directory("x"), symlink("y", "z")} {
		h.ok(1, e, []byte("data"), api.Policy{}, api.Done{Node: 5 + i})
	}
	h.ok(1, hard("z", "f"), []byte("data"), api.Policy{}, api.Done{Node: 4})
	if bytesAt(h.f, "f") != "f" {
		t.Error(bytesAt(h.f, "f"))
	}
}

// P19.2: the trace of each way, call by call.
func TestTrace(t *testing.T) {
	for _, x := range []struct {
		e    api.Entry
		p    api.Policy
		want []api.Act
	}{
		{directory("x"), api.Policy{}, []api.Act{{Op: api.OpMkdir, Dir: 1, Name: "x", Node: 5}}},
		{directory("d"), api.Policy{}, []api.Act{{Op: api.OpMeta, Node: 2}}},
		{directory("d"), api.Policy{There: api.Skip}, nil},
		{directory("f"), api.Policy{There: api.Replace}, []api.Act{{Op: api.OpUnlink, Dir: 1, Name: "f", Node: 4}, {Op: api.OpMkdir, Dir: 1, Name: "f", Node: 5}}},
		{symlink("d/x", "../f"), api.Policy{}, []api.Act{{Op: api.OpSymlink, Dir: 2, Name: "x", Node: 5}}},
		{symlink("s", "f"), api.Policy{There: api.Replace}, []api.Act{{Op: api.OpUnlink, Dir: 1, Name: "s", Node: 3}, {Op: api.OpSymlink, Dir: 1, Name: "s", Node: 5}}},
		{file("d/x", 4), api.Policy{}, []api.Act{{Op: api.OpCreate, Dir: 2, Name: "x", Node: 5}, {Op: api.OpWrite, Node: 5, N: 4}}},
		{file("m/n/x", 4), api.Policy{Parents: true}, []api.Act{
			{Op: api.OpMkdir, Dir: 1, Name: "m", Node: 5}, {Op: api.OpMkdir, Dir: 5, Name: "n", Node: 6},
			{Op: api.OpCreate, Dir: 6, Name: "x", Node: 7}, {Op: api.OpWrite, Node: 7, N: 4},
		}},
		{file("f", 4), api.Policy{There: api.Replace}, []api.Act{
			{Op: api.OpUnlink, Dir: 1, Name: "f", Node: 4}, {Op: api.OpCreate, Dir: 1, Name: "f", Node: 5}, {Op: api.OpWrite, Node: 5, N: 4},
		}},
		{hard("d/x", "f"), api.Policy{}, []api.Act{{Op: api.OpLink, Dir: 2, Name: "x", Node: 4}}},
		{hard("s", "f"), api.Policy{There: api.Replace}, []api.Act{{Op: api.OpUnlink, Dir: 1, Name: "s", Node: 3}, {Op: api.OpLink, Dir: 1, Name: "s", Node: 4}}},
		{hard("f", "f"), api.Policy{There: api.Replace}, nil},
	} {
		h := held{t, example(t)}
		h.f.Forget()
		if _, why := h.apply(1, x.e, []byte("data"), x.p); why != api.OK {
			t.Errorf("%+v: %d", x.e, why)
		}
		if got := h.f.Trace(); brief(got) != brief(x.want) {
			t.Errorf("%+v: %+v, not %+v", x.e, got, x.want)
		}
	}
}

// P19.3: all entries, up to the first that is refused, and none; each is Apply on what those ahead of it came to.
func TestAll(t *testing.T) {
	l := []api.Packed{
		{Entry: directory("a")},
		{Entry: file("a/f", 3), Data: []byte("abc")},
		{Entry: hard("a/g", "a/f")},
		{Entry: symlink("a/s", "../..")},
		{Entry: file("a/s/x", 0)},
		{Entry: directory("a")},
		{Entry: file("b/c/x", 1), Data: []byte("x")},
		{Entry: file("d", 0)},
		{Entry: api.Entry{Name: "q", Kind: api.Device}},
		{Entry: directory("z")},
	}
	whole := func(p api.Policy, l []api.Packed, want []api.Done, why api.Errno) {
		t.Helper()
		h, g := held{t, example(t)}, example(t)
		got, e := apply.All(g, 1, l, p)
		if brief(got) != brief(want) || e != why {
			t.Errorf("%+v: %+v %d, not %+v %d", p, got, e, want, why)
		}
		for i, x := range l {
			if i > len(want) {
				break
			}
			done, e := h.apply(1, x.Entry, x.Data, p)
			if i < len(want) && (done != want[i] || e != api.OK) || i == len(want) && e != why {
				t.Errorf("%d: %+v %d", i, done, e)
			}
		}
		if !sameImage(h.f.Image(), g.Image()) || brief(h.f.Trace()) != brief(g.Trace()) {
			t.Errorf("%+v: %s, not %s", p, brief(g.Image()), brief(h.f.Image()))
		}
	}
	three := []api.Done{{Node: 5}, {Node: 6}, {Node: 6}}
	four := append(three[:3:3], api.Done{Node: 7})
	whole(api.Policy{}, l, three, api.ErrUnsafe)
	whole(api.Policy{Leaving: true}, l, four, api.ErrInWay)
	whole(api.Policy{Leaving: true, There: api.Replace, Parents: true}, l, four, api.ErrInWay)
	l = append(l[:4:4], l[5:]...)
	whole(api.Policy{Leaving: true}, l, append(four[:4:4], api.Done{Node: 5}), api.ErrNone)
	six := append(four[:4:4], api.Done{Node: 5}, api.Done{Node: 10, Made: 2})
	whole(api.Policy{Leaving: true, Parents: true}, l, six, api.ErrThere)
	six[4] = api.Done{Skipped: true}
	whole(api.Policy{Leaving: true, Parents: true, There: api.Skip}, l, append(six[:6:6], api.Done{Skipped: true}), api.ErrOdd)
	l = append(l[:7:7], l[8])
	whole(api.Policy{Leaving: true, Parents: true, There: api.Skip}, l, append(six[:6:6], api.Done{Skipped: true}, api.Done{Node: 11}), api.OK)
	whole(api.Policy{}, nil, nil, api.OK)
	whole(api.Policy{There: 7}, nil, nil, api.OK) // of none nothing is asked
	whole(api.Policy{There: 7}, l, nil, api.ErrArg)
	whole(api.Policy{}, []api.Packed{{}}, nil, api.ErrEmpty)
	for top, why := range map[int]api.Errno{0: api.ErrOutside, 99: api.ErrOutside, 3: api.ErrNotDir, 4: api.ErrNotDir} {
		f := example(t)
		if got, e := apply.All(f, top, l, api.Policy{}); len(got) != 0 || e != why {
			t.Error(top, got, e)
		}
		if got, e := apply.All(f, top, nil, api.Policy{}); len(got) != 0 || e != api.OK {
			t.Error(top, got, e)
		}
	}
}
