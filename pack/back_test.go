package pack_test

import (
	"math/rand"
	"slices"
	"testing"

	"satchel/api"
	"satchel/apply"
	"satchel/pack"
	"satchel/vfs"
)

// renumbered is the same file system with other numbers, and by each old number the new one. The root keeps its own.
func renumbered(t *testing.T, r *rand.Rand, f *vfs.FS) (*vfs.FS, map[int]int) {
	t.Helper()
	image := f.Image()
	numbers := map[int]int{1: 1}
	free := r.Perm(3 * len(image.List))
	for i, n := range image.List {
		if n.Number != 1 {
			numbers[n.Number] = free[i] + 2
		}
	}
	for i := range image.List {
		n := &image.List[i]
		n.Number = numbers[n.Number]
		for j := range n.Entries {
			n.Entries[j].Node = numbers[n.Entries[j].Node]
		}
	}
	slices.SortFunc(image.List, func(a, b api.Node) int { return a.Number - b.Number })
	image.Next = 3*len(image.List) + 2
	g, why := vfs.Load(image)
	if why != api.OK {
		t.Fatal(why)
	}
	return g, numbers
}

// sameTree holds two directories to the same Tree and the same Sizes, packed in all ways.
func sameTree(t *testing.T, f *vfs.FS, a int, g *vfs.FS, b int) {
	t.Helper()
	for _, p := range packings() {
		one, why := pack.Tree(f, a, p)
		other, e := pack.Tree(g, b, p)
		if !sameList(one, other) || why != e {
			t.Fatalf("%+v: of %d in %s: %s %d, of %d in %s: %s %d", p, a, brief(f.Image()), brief(one), why, b, brief(g.Image()), brief(other), e)
		}
		n, size, why := pack.Sizes(f, a, p)
		m, all, e := pack.Sizes(g, b, p)
		if n != m || size != all || why != e {
			t.Fatalf("%+v: %d %d %d, %d %d %d", p, n, size, why, m, all, e)
		}
	}
}

// P21.4: what is alike has the same Tree: with other numbers; made by other calls in another order; under another name, at another depth; and again and again.
func TestAlike(t *testing.T) {
	f := grown(t, "a/", "b", "l -> b", "a/c = b", "a/d", "a/e/", "a/e/l = l")
	metas := func(g *vfs.FS, top string) *vfs.FS {
		for i, name := range []string{"a", "b", "l", "a/d", "a/e"} {
			g.Change(at(g, top+name), someMetaAt(i))
		}
		g.Resize(at(g, top+"b"), 0)
		g.Write(at(g, top+"b"), 0, []byte("bytes"))
		g.Resize(at(g, top+"a/d"), 0)
		return g
	}
	metas(f, "")
	for i, x := range []struct {
		g   *vfs.FS
		top string
	}{
		{metas(f.Clone(), ""), ""},
		{metas(grown(t, "l -> b", "b", "a/", "a/e/", "a/e/l = l", "a/d", "a/c = b"), ""), ""},
		{metas(grown(t, "a/", "a/c", "b = a/c", "a/e/", "a/e/l -> b", "l = a/e/l", "a/d"), ""), ""},
		{metas(grown(t, "x", "a/", "x2", "a/e/", "a/e/l -> b", "l = a/e/l", "a/c", "a/d", "b = a/c"), ""), ""},
		{metas(grown(t, "z", "t/", "t/b", "t/a/", "t/a/c = t/b", "t/l -> b", "t/a/e/", "t/a/e/l = t/l", "t/a/d", "a"), "t/"), "t"},
		{metas(grown(t, "s/", "s/t/", "s/t/a/", "s/t/a/e/", "s/t/a/c", "s/t/b = s/t/a/c", "s/t/l -> b", "s/t/a/e/l = s/t/l", "s/t/a/d"), "s/t/"), "s/t"},
	} {
		top := 1
		if x.top != "" {
			top = at(x.g, x.top)
		}
		if i == 3 { // what is more there was in the way, and is gone
			x.g.Unlink(1, "x")
			x.g.Unlink(1, "x2")
		}
		x.g.Change(top, api.Meta{})
		if !vfs.Alike(f, 1, x.g, top) {
			t.Fatal(i)
		}
		sameTree(t, f, 1, x.g, top)
		held{t, x.g}.whole(top)
	}
	sameTree(t, f, 1, f, 1)
	for seed := range int64(20) {
		r := rand.New(rand.NewSource(seed))
		g, numbers := renumbered(t, r, f)
		sameTree(t, f, 1, g, 1)
		sameTree(t, f, 2, g, numbers[2])
	}
}

// P21.6: what is brought out is alike, but for what was left out; held.back does so wherever a tree is packed.
func TestBack(t *testing.T) {
	out := func(f *vfs.FS, top int, p api.Packing) bool {
		t.Helper()
		list, why := pack.Tree(f, top, p)
		g, _ := vfs.New(api.MaxNodes, api.MaxBytes)
		if done, other := apply.All(g, 1, list, api.Policy{}); why != api.OK || other != api.OK || len(done) != len(list) {
			t.Fatal(why, other)
		}
		is, _ := f.Stat(top)
		g.Change(1, is.Meta)
		return vfs.Alike(f, top, g, 1)
	}
	f := grown(t, "t/", "t/a/", "t/b", "t/l -> b", "t/a/c = t/b", "t/a/d", "t/a/m -> ../l", "out = t/b", "t/dead -> none", "t/e/")
	for _, p := range packings() {
		if got := out(f, 2, p); got != (p == api.Packing{}) {
			t.Errorf("%+v: %v", p, got)
		}
	}
	f.Link(2, "z", at(f, "t/l"))
	if out(f, 2, api.Packing{}) {
		t.Error("two links are one")
	}
	plain, _ := vfs.New(9, 9) // where nothing is left out all ways are alike
	plain.Mkdir(1, "d", api.Meta{Mode: 1})
	plain.Create(2, "f", api.Meta{Mode: 2})
	plain.Write(3, 0, []byte("bytes"))
	for _, p := range packings() {
		if !out(plain, 1, p) {
			t.Error(p)
		}
	}
}

// P21.6: links that lead out are brought out by a policy that lets them, and by no other one.
func TestLinksOut(t *testing.T) {
	h := held{t, house(t)}
	list, _ := h.tree(2, api.Packing{})
	if done, why := apply.All(h.f.Clone(), 1, list, api.Policy{}); why == api.OK {
		t.Error(done, why)
	}
	h.tells(2, api.Packing{}, " b d/ d/e/ d/e/up->../../../out/d d/g d/h d/h2=d/h d/link->t d/up->../.. dead->none f file->../f h in->d link->t loop->loop out->../out root->/ up->.. zz zzz=zz")
	if x, why := h.one(2, []string{"root"}, api.Packing{}); why != api.OK || x.Entry.Link != "/" {
		t.Error(x, why)
	}
}
