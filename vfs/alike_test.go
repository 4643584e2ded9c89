package vfs_test

import (
	"fmt"
	"math/rand"
	"testing"

	"satchel/api"
	"satchel/vfs"
)

// canon is the tree under a directory as a text without numbers: by each name what it leads to, and the first name that leads to the same inode. Two trees are alike if their texts are the same.
func (m *model) canon(dir int) string {
	firsts := make(map[int]string)
	var tell func(name string, number int) string
	tell = func(name string, number int) string {
		if firsts[number] == "" {
			firsts[number] = name
		}
		n := m.inode(number)
		text := fmt.Sprintf("%q %q %d %+v %q %q\n", name, firsts[number], n.Kind, n.Meta, n.Data, n.Target)
		for _, e := range n.Entries {
			text += tell(name+"/"+e.Name, e.Node)
		}
		return text
	}
	if m.kind(dir) != api.Dir {
		return "no directory, and so alike to nothing"
	}
	return tell("top", dir)
}

// heldAlike holds Alike to the model, both ways, and answers it.
func heldAlike(t *testing.T, a both, x int, b both, y int) bool {
	t.Helper()
	want := a.m.kind(x) == api.Dir && a.m.canon(x) == b.m.canon(y)
	if vfs.Alike(a.f, x, b.f, y) != want || vfs.Alike(b.f, y, a.f, x) != want {
		t.Fatalf("%d of %s, %d of %s: not %t", x, brief(a.m.Image), y, brief(b.m.Image), want)
	}
	return want
}

// P10.10: the directories of one file system with each other and with themselves; what is no directory, or not there.
func TestAlikeWithItself(t *testing.T) {
	a := grown(t, 20, 10)
	for x := -1; x <= 10; x++ {
		for y := -1; y <= 10; y++ {
			got := heldAlike(t, a, x, a, y)
			dir := a.m.kind(x) == api.Dir
			empty := (x == 5 || x == 8) && (y == 5 || y == 8)
			if got != (dir && x == y || empty) {
				t.Errorf("%d and %d: %t", x, y, got)
			}
		}
	}
	a.held(call{what: "Alike"})
}

// P10.10: the same tree, made in another order, with other numbers, elsewhere, and with entries outside.
func TestAlikeNumbers(t *testing.T) {
	a := grown(t, 20, 10)
	b := newBoth(t, 30, 20)
	for _, c := range []call{
		{what: create, dir: 1, name: "x"}, // 2, which goes again
		{what: unlink, dir: 1, name: "x"},
		{what: mkdir, dir: 1, name: "s"},                                             // 3, the top
		{what: mkdir, dir: 3, name: "e"},                                             // 4
		{what: symlink, dir: 3, name: "s", target: "../..", meta: a.m.inode(4).Meta}, // 5
		{what: create, dir: 3, name: "h", meta: a.m.inode(3).Meta},                   // 6
		{what: write, node: 6, data: "abcdef"},
		{what: resize, node: 6, n: 4},
		{what: mkdir, dir: 1, name: "c"}, // 7
		{what: mkdir, dir: 1, name: "b"}, // 8
		{what: rename, dir: 1, name: "c", to: 8, other: "c"},
		{what: mkdir, dir: 3, name: "a", meta: a.m.inode(2).Meta}, // 9
		{what: create, dir: 9, name: "g"},                         // 10
		{what: rename, dir: 1, name: "b", to: 9, other: "b"},
		{what: link, dir: 3, name: "f", node: 6},
		{what: link, dir: 1, name: "one outside", node: 6},
		{what: link, dir: 1, name: "and a link's", node: 5},
		{what: write, node: 10, data: "x"}, {what: resize, node: 10}, // no bytes, as ever
	} {
		b.ok(c)
	}
	if !heldAlike(t, a, 1, b, 3) || !heldAlike(t, a, 2, b, 9) || heldAlike(t, a, 1, b, 1) || heldAlike(t, a, 1, b, 9) {
		t.Error("1 and 3 are alike, 2 and 9, and no others")
	}
}

// P10.10: each single thing that is another one.
func TestAlikeSingle(t *testing.T) {
	for i, c := range []call{
		{what: change, node: 1, meta: api.Meta{Mode: 1}},
		{what: change, node: 8, meta: api.Meta{Mode: 1}},
		{what: change, node: 8, meta: api.Meta{Uid: 1}},
		{what: change, node: 8, meta: api.Meta{Gid: 1}},
		{what: change, node: 8, meta: api.Meta{Time: 1}},
		{what: change, node: 8, meta: api.Meta{Nano: 1}},
		{what: change, node: 3, meta: api.Meta{Mode: 1}},
		{what: change, node: 4, meta: api.Meta{Mode: 1}},
		{what: write, node: 3, at: 3, data: "x"},
		{what: write, node: 7, data: "x"},
		{what: resize, node: 3, n: 3},
		{what: resize, node: 3, n: 5},
		{what: resize, node: 7, n: 1},
		{what: unlink, dir: 1, name: "f"},
		{what: unlink, dir: 1, name: "s"},
		{what: rmdir, dir: 6, name: "c"},
		{what: mkdir, dir: 8, name: "x"},
		{what: create, dir: 5, name: "x"},
		{what: link, dir: 5, name: "x", node: 3},
		{what: rename, dir: 1, name: "s", to: 1, other: "t"},
		{what: rename, dir: 6, name: "c", to: 6, other: "C"},
		{what: rename, dir: 6, name: "c", to: 5, other: "c"},
	} {
		a, b := grown(t, 20, 10), grown(t, 20, 10)
		if !heldAlike(t, a, 1, b, 1) {
			t.Error("not alike to begin with")
		}
		b.ok(c)
		if heldAlike(t, a, 1, b, 1) {
			t.Errorf("%d: alike behind %s", i, brief(c))
		}
	}
}

// P10.10: what stands in a place is of another kind, or has another target; an empty file is no empty directory.
func TestAlikeKinds(t *testing.T) {
	makers := []call{
		{what: mkdir}, {what: create}, {what: symlink, target: "a"}, {what: symlink, target: "b"}, {what: symlink, target: "aa"},
	}
	for i, x := range makers {
		for j, y := range makers {
			a, b := newBoth(t, 3, 0), newBoth(t, 4, 1)
			for _, one := range []struct {
				both
				call
			}{{a, x}, {b, y}} {
				one.call.dir, one.call.name = 1, "x"
				one.ok(one.call)
			}
			if heldAlike(t, a, 1, b, 1) != (i == j) {
				t.Errorf("%s and %s", brief(x), brief(y))
			}
		}
	}
}

// P10.10: all ways in which four names may share files of the same bytes, each against each: alike only with itself.
func TestAlikeHardLinks(t *testing.T) {
	names := []string{"a", "b", "c", "d"}
	var all []both
	var grow func(which []int, most int)
	grow = func(which []int, most int) {
		if len(which) < len(names) {
			for w := range most + 1 {
				grow(append(which[:len(which):len(which)], w), max(most, w+1))
			}
			return
		}
		for _, kind := range []string{create, symlink} {
			b := newBoth(t, 9, 9)
			b.ok(call{what: mkdir, dir: 1, name: "in"})
			made := make(map[int]int)
			for i, w := range which {
				dir, name := 1+i%2, names[i]
				if made[w] == 0 {
					made[w] = b.ok(call{what: kind, dir: dir, name: name, target: "t"})
				} else {
					b.ok(call{what: link, dir: dir, name: name, node: made[w]})
				}
			}
			all = append(all, b)
		}
	}
	grow(nil, 0)
	if len(all) != 30 {
		t.Fatal(len(all))
	}
	for i, a := range all {
		for j, b := range all {
			if heldAlike(t, a, 1, b, 1) != (i == j) {
				t.Errorf("%d and %d", i, j)
			}
		}
	}
}

// P10.10: hard links of which one name lies outside are as a file of one name; and one inode is not paired with two.
func TestAlikeOutside(t *testing.T) {
	a := newBoth(t, 9, 9)
	a.ok(call{what: mkdir, dir: 1, name: "x"})
	a.ok(call{what: mkdir, dir: 1, name: "y"})
	a.ok(call{what: create, dir: 2, name: "f"})
	a.ok(call{what: link, dir: 3, name: "f", node: 4})
	if !heldAlike(t, a, 2, a, 3) {
		t.Error("each has the file once")
	}
	a.ok(call{what: link, dir: 2, name: "g", node: 4})
	a.ok(call{what: create, dir: 3, name: "g"})
	if heldAlike(t, a, 2, a, 3) {
		t.Error("one file of two names, and two files")
	}
	a.ok(call{what: unlink, dir: 3, name: "g"})
	a.ok(call{what: link, dir: 3, name: "g", node: 4})
	if !heldAlike(t, a, 2, a, 3) {
		t.Error("both have two names of the same file")
	}
}

// P10.10: all directories of small file systems, each against each, by chance.
func TestAlikeSmall(t *testing.T) {
	t.Parallel()
	all := states(t, 4, 1, 4)
	r := rand.New(rand.NewSource(10))
	r.Shuffle(len(all), func(i, j int) { all[i], all[j] = all[j], all[i] })
	var some []both
	for _, x := range all[:400] {
		some = append(some, loaded(t, x))
	}
	alike := 0
	for i, a := range some {
		for j, b := range some[i:] {
			if heldAlike(t, a, 1, b, 1) && j > 0 {
				alike++
			}
			heldAlike(t, a, r.Intn(5), b, r.Intn(5))
		}
	}
	if alike < 50 {
		t.Errorf("only %d pairs are alike", alike)
	}
}

// P10.10: a tree by chance with other numbers is alike; behind further calls it is as the model says.
func TestAlikeCopies(t *testing.T) {
	t.Parallel()
	for seed := range int64(200) {
		r := rand.New(rand.NewSource(3000 + seed))
		a := newBoth(t, 15, 30)
		for range 80 {
			a.only(someCall(r, a.m))
		}
		b := loaded(t, renumbered(r, a.m))
		if !heldAlike(t, a, 1, b, 1) {
			t.Fatalf("%s and %s", brief(a.m.Image), brief(b.m.Image))
		}
		for range 5 {
			b.only(someCall(r, b.m))
			heldAlike(t, a, 1, b, 1)
		}
	}
}

// renumbered is the model's image with other numbers, by chance.
func renumbered(r *rand.Rand, m *model) api.Image {
	x := copied(m.Image)
	others := r.Perm(50)
	number := func(n int) int {
		for i := range m.List {
			if m.List[i].Number == n && n != 1 {
				return others[i] + 2
			}
		}
		return n
	}
	for i := range x.List {
		x.List[i].Number = number(x.List[i].Number)
		for j := range x.List[i].Entries {
			x.List[i].Entries[j].Node = number(x.List[i].Entries[j].Node)
		}
	}
	x.Next = 100
	sortNodes(x.List)
	return x
}
