package vfs_test

import (
	"fmt"
	"testing"

	"satchel/api"
)

// what an entry leads to, in TestRenameKinds.
const (
	nothing = "nothing"
	aFile   = "a file"
	aLinked = "a file that another entry names, too"
	aLink   = "a symbolic link"
	anEmpty = "an empty directory"
	aFull   = "a directory that has entries"
)

// put makes such a thing at dir's name.
func (b both) put(what string, dir int, name string) int {
	b.t.Helper()
	n := 0
	switch what {
	case aFile, aLinked:
		n = b.ok(call{what: create, dir: dir, name: name})
		b.ok(call{what: write, node: n, data: "xy"})
	case aLink:
		n = b.ok(call{what: symlink, dir: dir, name: name, target: "../f"})
	case anEmpty, aFull:
		n = b.ok(call{what: mkdir, dir: dir, name: name})
	}
	if what == aLinked {
		b.ok(call{what: link, dir: 1, name: "linked " + name, node: n})
	}
	if what == aFull {
		b.ok(call{what: create, dir: n, name: "in it"})
	}
	return n
}

// P10.8: each kind onto each kind and onto nothing, within one directory and from one into another.
func TestRenameKinds(t *testing.T) {
	isDir := map[string]bool{anEmpty: true, aFull: true}
	for _, onto := range []string{nothing, aFile, aLinked, aLink, anEmpty, aFull} {
		for _, from := range []string{aFile, aLinked, aLink, anEmpty, aFull} {
			for _, dirs := range [][2]int{{1, 1}, {1, 5}, {5, 1}, {5, 2}, {2, 8}, {8, 2}} {
				b := grown(t, 20, 20)
				x := b.put(from, dirs[0], "x")
				y := b.put(onto, dirs[1], "y")
				want := api.OK
				switch {
				case y != 0 && isDir[from] != isDir[onto]:
					want = api.ErrKind
				case onto == aFull:
					want = api.ErrFull
				}
				b.whys(call{what: rename, dir: dirs[0], name: "x", to: dirs[1], other: "y"}, want)
				if want == api.OK {
					b.whys(call{what: lookup, dir: dirs[0], name: "x"}, api.ErrMissing)
					if n := b.ok(call{what: lookup, dir: dirs[1], name: "y"}); n != x {
						t.Errorf("%s onto %s: %d", from, onto, n)
					}
					if _, why := b.f.Stat(y); y != 0 && (why == api.OK) != (onto == aLinked) {
						t.Errorf("%s onto %s: %d", from, onto, why)
					}
				}
				b.all()
			}
		}
	}
}

// P10.8: an entry onto itself, and onto another entry of the same inode: nothing is changed, and yet it is done.
func TestRenameSame(t *testing.T) {
	b := grown(t, 20, 10)
	b.ok(call{what: link, dir: 5, name: "deep", node: 3})
	b.ok(call{what: link, dir: 5, name: "s", node: 4})
	b.f.Forget()
	b.m.trace = nil
	before := b.f.Image()
	for i, c := range []call{
		{dir: 1, name: "a", to: 1, other: "a"}, // full, and into itself is not asked
		{dir: 1, name: "e", to: 1, other: "e"},
		{dir: 2, name: "b", to: 2, other: "b"},
		{dir: 1, name: "f", to: 1, other: "f"},
		{dir: 1, name: "f", to: 1, other: "h"},
		{dir: 1, name: "h", to: 1, other: "f"},
		{dir: 1, name: "f", to: 5, other: "deep"},
		{dir: 5, name: "deep", to: 1, other: "h"},
		{dir: 1, name: "s", to: 5, other: "s"},
		{dir: 1, name: "s", to: 1, other: "s"},
	} {
		c.what = rename
		b.ok(c)
		if !sameImage(b.f.Image(), before) || len(b.f.Trace()) != i+1 {
			t.Errorf("%s changed something, or is not traced", brief(c))
		}
	}
}

// P10.8: a directory into itself, and into what lies in it however deep; beside it and above it, it may.
func TestRenameInto(t *testing.T) {
	for _, c := range []struct {
		call
		why api.Errno
	}{
		{call{dir: 1, name: "a", to: 2, other: "x"}, api.ErrLoop},
		{call{dir: 1, name: "a", to: 6, other: "x"}, api.ErrLoop},
		{call{dir: 1, name: "a", to: 8, other: "x"}, api.ErrLoop},
		{call{dir: 1, name: "a", to: 6, other: "c"}, api.ErrLoop},
		{call{dir: 2, name: "b", to: 6, other: "x"}, api.ErrLoop},
		{call{dir: 2, name: "b", to: 6, other: "c"}, api.ErrLoop},
		{call{dir: 2, name: "b", to: 8, other: "x"}, api.ErrLoop},
		{call{dir: 1, name: "e", to: 5, other: "x"}, api.ErrLoop},
		{call{dir: 6, name: "c", to: 8, other: "c"}, api.ErrLoop},
		{call{dir: 2, name: "b", to: 1, other: "a"}, api.ErrFull}, // onto what it lies in
		{call{dir: 6, name: "c", to: 1, other: "a"}, api.ErrFull},
		{call{dir: 6, name: "c", to: 2, other: "b"}, api.ErrFull},
		{call{dir: 2, name: "g", to: 1, other: "a"}, api.ErrKind},
		{call{dir: 1, name: "a", to: 5, other: "x"}, api.OK},
		{call{dir: 1, name: "a", to: 1, other: "e"}, api.OK},
		{call{dir: 2, name: "b", to: 2, other: "x"}, api.OK},
		{call{dir: 2, name: "b", to: 1, other: "x"}, api.OK},
		{call{dir: 6, name: "c", to: 1, other: "e"}, api.OK},
		{call{dir: 1, name: "e", to: 8, other: "x"}, api.OK},
		{call{dir: 1, name: "e", to: 6, other: "c"}, api.OK},
		{call{dir: 1, name: "f", to: 8, other: "f"}, api.OK}, // what is no directory goes anywhere
	} {
		b := grown(t, 20, 10)
		c.what = rename
		b.whys(c.call, c.why)
		b.all()
	}
}

// P10.8, P10.2: Up and what is in what behind many renames of a chain of directories.
func TestRenameChain(t *testing.T) {
	const long = 12
	b := newBoth(t, long+1, 0)
	for i := range long {
		b.ok(call{what: mkdir, dir: 1, name: fmt.Sprint("d", i)})
	}
	for i := 1; i < long; i++ { // d1 into d0, d2 into d1 ..
		b.ok(call{what: rename, dir: 1, name: fmt.Sprint("d", i), to: i + 1, other: "in"})
	}
	for i := range long {
		for j := range long {
			if i <= j {
				dir, name := i, "in"
				if i == 0 {
					dir, name = 1, "d0"
				} else {
					dir = i + 1
				}
				b.whys(call{what: rename, dir: dir, name: name, to: j + 2, other: "new"}, api.ErrLoop)
			}
		}
	}
	for i := long - 1; i > 1; i-- { // each to the top again, but d1, which stays in d0
		b.ok(call{what: rename, dir: i + 1, name: "in", to: 1, other: fmt.Sprint("top", i)})
	}
	b.ok(call{what: rename, dir: 1, name: "d0", to: long + 1, other: "back"})
	b.whys(call{what: rename, dir: 1, name: fmt.Sprint("top", long-1), to: 3, other: "x"}, api.ErrLoop)
	b.all()
}
