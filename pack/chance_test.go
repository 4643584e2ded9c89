package pack_test

import (
	"fmt"
	"math/rand"
	"testing"

	"satchel/api"
	"satchel/pack"
	"satchel/path"
	"satchel/vfs"
	"satchel/walk"
)

// grow is all file systems that one call more comes to; each file has a byte.
func grow(f *vfs.FS) []*vfs.FS {
	var list []*vfs.FS
	m := api.Meta{Mode: 1, Uid: 2, Time: 3}
	for _, n := range f.Image().List {
		for _, name := range []string{"a", "b", "a."} {
			calls := []func(g *vfs.FS) api.Errno{
				func(g *vfs.FS) api.Errno { _, why := g.Mkdir(n.Number, name, m); return why },
				func(g *vfs.FS) api.Errno { _, why := g.Symlink(n.Number, name, "..", m); return why },
				func(g *vfs.FS) api.Errno {
					node, why := g.Create(n.Number, name, m)
					g.Write(node, 0, []byte("x"))
					return why
				},
			}
			for _, x := range f.Image().List {
				calls = append(calls, func(g *vfs.FS) api.Errno { return g.Link(n.Number, name, x.Number) })
			}
			for _, call := range calls {
				if g := f.Clone(); call(g) == api.OK {
					list = append(list, g)
				}
			}
		}
	}
	return list
}

// small is all file systems that so many calls come to, each once.
func small(calls int) []*vfs.FS {
	f, _ := vfs.New(20, 20)
	level := []*vfs.FS{f}
	for range calls {
		seen := make(map[string]bool)
		var next []*vfs.FS
		for _, f := range level {
			for _, g := range grow(f) {
				if key := fmt.Sprint(g.Image()); !seen[key] {
					seen[key] = true
					next = append(next, g)
				}
			}
		}
		level = next
	}
	return level
}

// P21.1 to P21.6: on all small file systems, from all tops.
func TestSmall(t *testing.T) {
	t.Parallel()
	for calls := range 4 {
		for _, f := range small(calls) {
			f.Forget()
			h := held{t, f}
			for top := range f.Image().Next + 1 {
				h.tree(top, api.Packing{})
				h.tree(top, api.Packing{Apart: true, NoTimes: calls%2 == 0, NoOwners: calls > 1})
				for _, parts := range [][]string{{"a"}, {"b"}, {"a", "a"}, {"a", "b"}, {"b", "a."}, {"a", "a", "b"}} {
					h.one(top, parts, api.Packing{})
				}
			}
		}
	}
}

func one[T any](r *rand.Rand, list ...T) T { return list[r.Intn(len(list))] }

func someMeta(r *rand.Rand) api.Meta {
	return api.Meta{Mode: uint32(r.Intn(4096)), Uid: r.Uint32(), Gid: r.Uint32(), Time: int64(r.Uint64()), Nano: int32(r.Intn(1000000000))}
}

// wild is a file system that calls by chance came to: with files of many names, and with numbers out of order.
func wild(r *rand.Rand) *vfs.FS {
	f, _ := vfs.New(40, 4000)
	name := func() string { return one(r, "a", "b", "c", "d", "a.", "a-", "\xff", "b\n") }
	for range 10 + r.Intn(100) {
		list := f.Image().List
		node := func() int { return list[r.Intn(len(list))].Number }
		dir := func() int {
			n := node()
			for is, _ := f.Stat(n); is.Kind != api.Dir; is, _ = f.Stat(n) {
				n = node()
			}
			return n
		}
		switch r.Intn(14) {
		case 0, 1, 2:
			f.Mkdir(dir(), name(), someMeta(r))
		case 3, 4:
			n, _ := f.Create(dir(), name(), someMeta(r))
			f.Write(n, 0, make([]byte, r.Intn(90)))
			f.Write(n, r.Intn(9), []byte(name()))
		case 5:
			f.Symlink(dir(), name(), one(r, "..", "/", "a", "../b", "a/b/c", "../../a/b"), someMeta(r))
		case 6, 7, 8, 9:
			f.Link(dir(), name(), node())
		case 10, 11:
			f.Rename(dir(), name(), dir(), name())
		case 12:
			f.Unlink(dir(), name())
		case 13:
			f.Resize(node(), 0)
		}
	}
	return f
}

func someParts(r *rand.Rand, f *vfs.FS, top int) []string {
	var parts []string
	if all := walk.All(f, top); len(all) > 0 && r.Intn(6) > 0 {
		parts = one(r, all...).Parts
	}
	for range r.Intn(3) {
		parts = append(parts, one(r, "a", "b", "c", "d"))
	}
	if r.Intn(8) == 0 {
		parts = append(parts, one(r, "..", ".", "", "\x00", "a/b", wide(256)))
	}
	return parts
}

// seen counts what a list has, to be sure that chance brought it about.
func seen(count map[string]int, f *vfs.FS, top int, list []api.Packed) {
	for _, x := range list {
		count[fmt.Sprintf("kind %d", x.Entry.Kind)]++
		parts, _ := path.Split(x.Entry.Name)
		node, _, _ := walk.Find(f, top, parts)
		is, _ := f.Stat(node)
		names := len(walk.Names(f, top, node))
		switch {
		case x.Entry.Kind == api.HardLink && names > 2:
			count["many names"]++
		case x.Entry.Kind == api.File && names == 1 && is.Links > 1:
			count["names outside"]++
		case x.Entry.Kind == api.File && names > 1 && is.Links > names:
			count["names in and outside"]++
		case x.Entry.Kind == api.File && is.Size == 0 && names > 1:
			count["no bytes, and names"]++
		case x.Entry.Kind == api.Symlink && names > 1:
			count["names of a link"]++
		}
	}
}

// P21.1 to P21.6: on file systems by chance, from all tops, in all ways, and with other numbers.
func TestChance(t *testing.T) {
	t.Parallel()
	count := make(map[string]int)
	for seed := range int64(250) {
		r := rand.New(rand.NewSource(seed))
		h := held{t, wild(r)}
		g, numbers := renumbered(t, r, h.f)
		for _, n := range h.f.Image().List {
			for range 2 {
				p := one(r, packings()...)
				list, why := h.tree(n.Number, p)
				count["tree "+why.Error()]++
				seen(count, h.f, n.Number, list)
			}
			for range 4 {
				_, why := h.one(n.Number, someParts(r, h.f, n.Number), one(r, packings()...))
				count["one "+why.Error()]++
			}
		}
		for range 3 {
			top := one(r, h.f.Image().List...).Number
			sameTree(t, h.f, top, g, numbers[top])
		}
	}
	for what, errors := range map[string][]api.Errno{
		"tree ": {api.OK, api.ErrNotDir},
		"one ":  {api.OK, api.ErrNone, api.ErrInWay, api.ErrNotDir, api.ErrEmpty, api.ErrDots, api.ErrZero, api.ErrAbsolute, api.ErrName},
	} {
		for _, why := range errors {
			if count[what+why.Error()] < 5 {
				t.Errorf("%d times %sanswered %d", count[what+why.Error()], what, why)
			}
		}
	}
	for _, what := range []string{"kind 1", "kind 2", "kind 3", "kind 4", "many names", "names outside", "names in and outside", "no bytes, and names", "names of a link"} {
		if count[what] < 20 {
			t.Errorf("%s: %d times", what, count[what])
		}
	}
}

// P21.1, P21.3: by chance, trees whose bytes are about as many as there may be.
func TestChanceMuch(t *testing.T) {
	t.Parallel()
	count := make(map[api.Errno]int)
	for seed := range int64(60) {
		r := rand.New(rand.NewSource(seed))
		f, _ := vfs.New(40, api.MaxBytes)
		for i := range 1 + r.Intn(4) {
			node, _ := f.Create(1, string(rune('a'+i)), someMeta(r))
			f.Resize(node, one(r, 0, 1, 1<<18, 1<<19, 1<<20, 1<<20-1, 1<<19+1))
			for j := range r.Intn(6) {
				f.Link(1, string(rune('a'+r.Intn(26)))+string(rune('a'+j)), node)
			}
		}
		h := held{t, f}
		list, why := h.tree(1, api.Packing{Apart: true})
		n, size, other := pack.Sizes(f, 1, api.Packing{Apart: true})
		if n != len(list) || size != sum(list) || other != why {
			t.Fatal(n, size, other, why)
		}
		count[why]++
		h.tree(1, api.Packing{})
	}
	if count[api.OK] < 10 || count[api.ErrLong] < 10 {
		t.Error(count)
	}
}
