package walk_test

import (
	"math"
	"slices"
	"strings"
	"testing"

	"satchel/api"
	"satchel/vfs"
	"satchel/walk"
)

// allNames is All's names, with a slash between each two parts.
func allNames(f *vfs.FS, top int) []string {
	var names []string
	for _, x := range walk.All(f, top) {
		names = append(names, strings.Join(x.Parts, "/"))
	}
	return names
}

// P11.5, P11.6: the chapter's examples.
func TestExamplesOfTrees(t *testing.T) {
	f := example(t)
	want := []api.Found{
		{Parts: []string{"a"}, Node: 2, Kind: api.Dir},
		{Parts: []string{"a", "f"}, Node: 6, Kind: api.File},
		{Parts: []string{"s"}, Node: 3, Kind: api.Symlink},
		{Parts: []string{"t"}, Node: 4, Kind: api.Symlink},
		{Parts: []string{"u"}, Node: 5, Kind: api.Symlink},
	}
	if got := walk.All(f, 1); !sameFound(got, want) {
		t.Errorf("%+v", got)
	}
	h := held{t, f}
	if n, why := h.clear(1); n != 5 || why != api.OK {
		t.Error(n, why)
	}
}

// full is a tree with hard links in and out of the directory 2, empty directories, and names whose order is not that of the texts with slashes.
func full(t *testing.T) *vfs.FS {
	return grown(t,
		"d/", "d/a/", "d/a.b", "d/a/b/", "d/a/b/z", // 2 to 6
		"d/a-/", "d/a-/x", "d/e/", "d/s -> ../out", "out", // 7 to 11
		"d/h = out", "d/a/h = out", "d/a/b/y = d/a.b", "in = d/a.b", // of 11 and 4
		"d/a/s2 = d/s", "z/", "z/s = d/s", // 12
		"d/\xff", "d/B", "d/b", "d/ab", // 13 to 16
	)
}

// P11.5: the names in path.Compare's order, hard links under each name, top itself under none.
func TestAll(t *testing.T) {
	f := full(t)
	inD := []string{"B", "a", "a/b", "a/b/y", "a/b/z", "a/h", "a/s2", "a-", "a-/x", "a.b", "ab", "b", "e", "h", "s", "\xff"}
	under := []string{"d"}
	for _, name := range inD {
		under = append(under, "d/"+name)
	}
	for _, x := range []struct {
		top   int
		names []string
		reach []int
	}{
		{1, append(under, "in", "out", "z", "z/s"), []int{1, 2, 3, 4, 5, 6, 7, 8, 9, 10, 11, 12, 13, 14, 15, 16}},
		{2, inD, []int{2, 3, 4, 5, 6, 7, 8, 9, 10, 11, 13, 14, 15, 16}},
		{3, []string{"b", "b/y", "b/z", "h", "s2"}, []int{3, 4, 5, 6, 10, 11}},
		{5, []string{"y", "z"}, []int{4, 5, 6}},
		{7, []string{"x"}, []int{7, 8}},
		{9, nil, []int{9}}, // a directory without entries
		{12, []string{"s"}, []int{10, 12}},
		{4, nil, nil}, {10, nil, nil}, {11, nil, nil}, // a file, a symbolic link, a file
		{0, nil, nil}, {-1, nil, nil}, {17, nil, nil}, {math.MaxInt, nil, nil}, {math.MinInt, nil, nil},
	} {
		h := held{t, f}
		h.unchanged("All", func() {
			h.trees(modelOf(f), x.top)
			if got := allNames(f, x.top); !slices.Equal(got, x.names) {
				t.Errorf("All(%d): %q, not %q", x.top, got, x.names)
			}
			if got := walk.Reach(f, x.top); !slices.Equal(got, x.reach) {
				t.Errorf("Reach(%d): %d, not %d", x.top, got, x.reach)
			}
		})
	}
}

// P11.5: all names of an inode in a tree, and none of those outside of it.
func TestNames(t *testing.T) {
	f := full(t)
	for _, x := range []struct {
		top, node int
		names     string
	}{
		{1, 11, "d/a/h d/h out"}, {2, 11, "a/h h"}, {3, 11, "h"}, {5, 11, ""}, {12, 11, ""},
		{1, 4, "d/a/b/y d/a.b in"}, {2, 4, "a/b/y a.b"}, {5, 4, "y"}, {7, 4, ""},
		{1, 10, "d/a/s2 d/s z/s"}, {12, 10, "s"}, {2, 10, "a/s2 s"},
		{1, 2, "d"}, {1, 5, "d/a/b"}, {3, 5, "b"}, {2, 9, "e"},
		{1, 1, ""}, {2, 2, ""}, {9, 9, ""}, {2, 1, ""}, {3, 2, ""}, {2, 12, ""}, // top, what it lies in, what lies beside it
		{1, 0, ""}, {1, -1, ""}, {1, 99, ""}, {0, 11, ""}, {99, 11, ""}, {11, 11, ""}, {10, 4, ""}, {0, 0, ""}, {99, 99, ""},
	} {
		var want [][]string
		for _, name := range strings.Fields(x.names) {
			want = append(want, strings.Split(name, "/"))
		}
		if got := walk.Names(f, x.top, x.node); !sameLists(got, want) {
			t.Errorf("Names(%d, %d): %q, not %q", x.top, x.node, got, want)
		}
	}
}

// P11.5, P11.6: a directory of many entries, and a deep tree.
func TestGreatTrees(t *testing.T) {
	const deep = 700
	f, _ := vfs.New(api.MaxNodes, 0)
	parts := strings.Split(strings.Repeat("d/", deep-1)+"d", "/")
	last, _, _ := walk.Make(f, 1, parts, api.Meta{})
	file, _ := f.Create(last, "f", api.Meta{})
	for i := range 500 {
		f.Link(2, string(rune('a'+i%26))+strings.Repeat("x", i/26), file)
	}
	all := walk.All(f, 1)
	if len(all) != deep+1+500-1 { // "d" is there already
		t.Fatal(len(all))
	}
	for i := range all[1:] {
		if slices.Compare(all[i].Parts, all[i+1].Parts) >= 0 {
			t.Fatalf("%q behind %q", all[i+1].Parts, all[i].Parts)
		}
	}
	if got := walk.Names(f, 1, file); len(got) != 500 {
		t.Error(len(got))
	}
	if got := walk.Reach(f, 1); len(got) != deep+2 || got[0] != 1 || got[deep+1] != file {
		t.Error(len(got))
	}
	f.Forget()
	if n, why := walk.Clear(f, 1); n != len(all) || why != api.OK {
		t.Error(n, why)
	}
	slices.Reverse(all)
	for i, act := range f.Trace() {
		x := all[i]
		if act.Node != x.Node || act.Name != x.Parts[len(x.Parts)-1] || (act.Op == api.OpRmdir) != (x.Kind == api.Dir) {
			t.Fatalf("%d: %+v of %+v", i, act, x)
		}
	}
	if free, _ := f.Free(); free != api.MaxNodes-1 || len(walk.All(f, 1)) != 0 {
		t.Error(free)
	}
}

// P11.6, P11.9: what is taken away, in which order, how many; files that have names outside stay.
func TestClear(t *testing.T) {
	rmdir, unlink := api.OpRmdir, api.OpUnlink
	for _, x := range []struct {
		dir  int
		acts []api.Act
		stay []int // of the inodes
	}{
		{2, []api.Act{
			{Op: unlink, Dir: 2, Name: "\xff", Node: 13},
			{Op: unlink, Dir: 2, Name: "s", Node: 10},
			{Op: unlink, Dir: 2, Name: "h", Node: 11},
			{Op: rmdir, Dir: 2, Name: "e", Node: 9},
			{Op: unlink, Dir: 2, Name: "b", Node: 15},
			{Op: unlink, Dir: 2, Name: "ab", Node: 16},
			{Op: unlink, Dir: 2, Name: "a.b", Node: 4},
			{Op: unlink, Dir: 7, Name: "x", Node: 8},
			{Op: rmdir, Dir: 2, Name: "a-", Node: 7},
			{Op: unlink, Dir: 3, Name: "s2", Node: 10},
			{Op: unlink, Dir: 3, Name: "h", Node: 11},
			{Op: unlink, Dir: 5, Name: "z", Node: 6},
			{Op: unlink, Dir: 5, Name: "y", Node: 4},
			{Op: rmdir, Dir: 3, Name: "b", Node: 5},
			{Op: rmdir, Dir: 2, Name: "a", Node: 3},
			{Op: unlink, Dir: 2, Name: "B", Node: 14},
		}, []int{1, 2, 4, 10, 11, 12}},
		{5, []api.Act{
			{Op: unlink, Dir: 5, Name: "z", Node: 6},
			{Op: unlink, Dir: 5, Name: "y", Node: 4},
		}, []int{1, 2, 3, 4, 5, 7, 8, 9, 10, 11, 12, 13, 14, 15, 16}},
		{12, []api.Act{{Op: unlink, Dir: 12, Name: "s", Node: 10}}, []int{1, 2, 3, 4, 5, 6, 7, 8, 9, 10, 11, 12, 13, 14, 15, 16}},
		{9, nil, []int{1, 2, 3, 4, 5, 6, 7, 8, 9, 10, 11, 12, 13, 14, 15, 16}},
	} {
		h := held{t, full(t)}
		if n, why := h.clear(x.dir); n != len(x.acts) || why != api.OK {
			t.Errorf("Clear(%d): %d %d", x.dir, n, why)
		}
		if got := h.f.Trace(); !slices.Equal(got, x.acts) {
			t.Errorf("Clear(%d): %+v", x.dir, got)
		}
		if got := walk.Reach(h.f, 1); !slices.Equal(got, x.stay) {
			t.Errorf("Clear(%d): %d stay", x.dir, got)
		}
		if n, why := h.clear(x.dir); n != 0 || why != api.OK {
			t.Errorf("Clear(%d) again: %d %d", x.dir, n, why)
		}
	}
	h := held{t, full(t)}
	if n, why := h.clear(1); n != 21 || why != api.OK {
		t.Error(n, why)
	}
	if got := walk.Reach(h.f, 1); !slices.Equal(got, []int{1}) {
		t.Error(got)
	}
}

// P11.6: what is not there, and what is no directory.
func TestClearOfNone(t *testing.T) {
	h := held{t, full(t)}
	for _, dir := range []int{0, -1, 17, math.MaxInt, math.MinInt} {
		if n, why := h.clear(dir); n != 0 || why != api.ErrOutside {
			t.Errorf("%d: %d %d", dir, n, why)
		}
	}
	for _, dir := range []int{4, 6, 10, 11} {
		if n, why := h.clear(dir); n != 0 || why != api.ErrNotDir {
			t.Errorf("%d: %d %d", dir, n, why)
		}
	}
}
