package apply_test

import (
	"fmt"
	"math/rand"
	"slices"
	"strings"
	"testing"

	"satchel/api"
	"satchel/apply"
	"satchel/vfs"
	"satchel/walk"
)

// grow is all file systems that one call more comes to; each file has a byte.
func grow(f *vfs.FS) []*vfs.FS {
	var list []*vfs.FS
	m := api.Meta{Mode: 1}
	for _, n := range f.Image().List {
		for _, name := range []string{"a", "b"} {
			calls := []func(g *vfs.FS) api.Errno{
				func(g *vfs.FS) api.Errno { _, why := g.Mkdir(n.Number, name, m); return why },
				func(g *vfs.FS) api.Errno { _, why := g.Symlink(n.Number, name, "..", m); return why },
				func(g *vfs.FS) api.Errno {
					node, why := g.Create(n.Number, name, m)
					g.Write(node, 0, []byte("x"))
					return why
				},
			}
			for _, x := range f.Image().List {
				calls = append(calls, func(g *vfs.FS) api.Errno { return g.Link(n.Number, name, x.Number) })
			}
			for _, call := range calls {
				if g := f.Clone(); call(g) == api.OK {
					list = append(list, g)
				}
			}
		}
	}
	return list
}

// small is all file systems that so many calls come to, each once.
func small(calls int) []*vfs.FS {
	f, _ := vfs.New(20, 20)
	level := []*vfs.FS{f}
	for range calls {
		seen := make(map[string]bool)
		var next []*vfs.FS
		for _, f := range level {
			for _, g := range grow(f) {
				if key := fmt.Sprint(g.Image()); !seen[key] {
					seen[key] = true
					next = append(next, g)
				}
			}
		}
		level = next
	}
	return level
}

// about is entries of all kinds, of and to all names of a list.
func about(names []string) []api.Entry {
	var list []api.Entry
	for _, name := range names {
		list = append(list, directory(name), file(name, 0), file(name, 2), symlink(name, "b"), symlink(name, "../a"))
		for _, link := range names {
			list = append(list, hard(name, link))
		}
	}
	return list
}

// policies are all that play a part behind Check.
func policies() []api.Policy {
	var list []api.Policy
	for _, there := range ways {
		for _, parents := range []bool{false, true} {
			list = append(list, api.Policy{There: there, Parents: parents, Mask: 3})
		}
	}
	return list
}

// P19.2, P19.4 to P19.7: on all small file systems, in all tops, all entries of a few names, by all policies.
func TestSmall(t *testing.T) {
	t.Parallel()
	entries := about([]string{"a", "b", "a/a", "a/b"})
	for calls := range 4 {
		for _, f := range small(calls) {
			allOn(t, f, entries)
		}
	}
}

func allOn(t *testing.T, f *vfs.FS, entries []api.Entry) {
	t.Helper()
	f.Forget()
	for top := 1; top <= f.Image().Next; top++ {
		for _, e := range entries {
			e.Meta = api.Meta{Mode: 6, Uid: 3}
			for _, p := range policies() {
				held{t, f.Clone()}.apply(top, e, []byte("yz")[:e.Size], p)
			}
		}
	}
}

func one[T any](r *rand.Rand, list ...T) T { return list[r.Intn(len(list))] }

func someMeta(r *rand.Rand) api.Meta {
	return api.Meta{Mode: uint32(r.Intn(4200)), Uid: r.Uint32(), Gid: r.Uint32(), Time: int64(r.Uint64()), Nano: int32(r.Intn(1000000000))}
}

// wild is a file system that calls by chance came to: deeper, with more names, with numbers out of order, and often with little room.
func wild(r *rand.Rand) *vfs.FS {
	f, _ := vfs.New(25+r.Intn(10), 8+r.Intn(40))
	name := func() string { return one(r, "a", "b", "c", "d") }
	for range 10 + r.Intn(60) {
		list := f.Image().List
		node := func() int { return list[r.Intn(len(list))].Number }
		dir := func() int {
			n := node()
			for is, _ := f.Stat(n); is.Kind != api.Dir; is, _ = f.Stat(n) {
				n = node()
			}
			return n
		}
		switch r.Intn(10) {
		case 0, 1, 2:
			f.Mkdir(dir(), name(), someMeta(r))
		case 3, 4:
			n, _ := f.Create(dir(), name(), someMeta(r))
			f.Write(n, 0, []byte(name()))
		case 5, 6:
			f.Symlink(dir(), name(), one(r, "..", "/", "a", "../b", "a/b/c", "../../a/b"), someMeta(r))
		case 7:
			f.Link(dir(), name(), node())
		case 8:
			f.Rename(dir(), name(), dir(), name())
		case 9:
			f.Unlink(dir(), name())
		}
	}
	return f
}

// someName is a name by chance: often of something that is there, or near it.
func someName(r *rand.Rand, f *vfs.FS, top int) string {
	var parts []string
	if all := walk.All(f, top); len(all) > 0 && r.Intn(4) > 0 {
		parts = one(r, all...).Parts
	}
	for range r.Intn(3) {
		parts = append(parts, one(r, "a", "b", "c", "d", "e", "", "."))
	}
	if r.Intn(60) == 0 {
		parts = append(parts, one(r, "..", "\x00", wide(256)))
	}
	return strings.Join(parts, "/")
}

func someEntry(r *rand.Rand, f *vfs.FS, top int) (api.Entry, []byte) {
	e := api.Entry{Name: someName(r, f, top), Kind: 1 + r.Intn(4), Meta: someMeta(r), Link: someName(r, f, top), Size: int64(r.Intn(12))}
	if r.Intn(50) == 0 {
		e.Kind = r.Intn(8)
	}
	if e.Kind == api.Symlink && r.Intn(3) == 0 {
		e.Link = one(r, "..", "/etc", "../..", "a/../..")
	}
	data := []byte("some data that are there")[:e.Size]
	if r.Intn(40) == 0 {
		e.Size++
	}
	return e, data
}

func somePolicy(r *rand.Rand) api.Policy {
	p := api.Policy{There: r.Intn(3), Parents: r.Intn(2) == 0, Mask: uint32(one(r, 0, 0o22, 4096, 4096+0o777)), Leaving: r.Intn(2) == 0}
	if r.Intn(60) == 0 {
		p.There = one(r, -1, 3)
	}
	return p
}

// P19.1 to P19.7: entries by chance, one behind the other, on file systems by chance.
func TestChance(t *testing.T) {
	t.Parallel()
	seen := make(map[string]int)
	for seed := range int64(1500) {
		r := rand.New(rand.NewSource(seed))
		h := held{t, wild(r)}
		top := one(r, h.f.Image().List...).Number
		if r.Intn(4) > 0 {
			top = one(r, 1, 2)
		}
		for range 25 {
			e, data := someEntry(r, h.f, top)
			p := somePolicy(r)
			if why := apply.Check(e, data, p); why != modelCheck(e, data, p) {
				t.Fatalf("Check(%s, %+v): %d", brief(e), p, why)
			}
			next := h.f.Image().Next
			done, why := h.apply(top, e, data, p)
			seen[fmt.Sprintf("%d %d %v %v %v", e.Kind, why, done.Made > 0, done.Replaced, done.Skipped)]++
			if is, _ := h.f.Stat(h.f.Image().Next - 1); why == api.ErrSpace && is.Node >= next && is.Kind == api.File {
				seen["a file without its bytes"]++
			}
		}
	}
	for _, kind := range []int{api.Dir, api.File, api.Symlink, api.HardLink} {
		for _, why := range []api.Errno{
			api.ErrArg, api.ErrEmpty, api.ErrAbsolute, api.ErrDots, api.ErrZero, api.ErrName,
			api.ErrNone, api.ErrInWay, api.ErrNotDir, api.ErrOutside, api.ErrThere, api.ErrSpace,
		} {
			if seen[fmt.Sprintf("%d %d false false false", kind, why)] == 0 {
				t.Errorf("of the kind %d never %d", kind, why)
			}
		}
		for _, what := range []string{"false false false", "true false false", "false true false", "false false true"} {
			if seen[fmt.Sprintf("%d 0 %s", kind, what)] == 0 {
				t.Errorf("of the kind %d never %s", kind, what)
			}
		}
	}
	for _, what := range []string{"2 192 ", "3 107 ", "3 190 ", "4 191 ", "5 193 "} {
		if seen[what+"false false false"] == 0 {
			t.Errorf("never %s", what)
		}
	}
	if seen["a file without its bytes"] == 0 {
		t.Error("there was always room for bytes")
	}
}

// P19.3: All by chance: the Dones and the error of Apply of each, one behind the other.
func TestChanceAll(t *testing.T) {
	t.Parallel()
	whole, cut := 0, 0
	for seed := range int64(2000) {
		r := rand.New(rand.NewSource(seed))
		f := wild(r)
		top := one(r, 1, 1, 1, one(r, walk.Reach(f, 1)...))
		p := somePolicy(r)
		if r.Intn(2) == 0 {
			p = api.Policy{There: api.Skip, Parents: true, Leaving: true, Mask: 4096}
		}
		var l []api.Packed
		for range r.Intn(8) {
			e, data := someEntry(r, f, top)
			l = append(l, api.Packed{Entry: e, Data: data})
		}
		h := held{t, f.Clone()}
		var want []api.Done
		why := api.OK
		for _, x := range l {
			var done api.Done
			if done, why = h.apply(top, x.Entry, x.Data, p); why != api.OK {
				break
			}
			want = append(want, done)
		}
		f.Forget()
		got, e := apply.All(f, top, l, p)
		if !slices.Equal(got, want) || e != why || !sameImage(f.Image(), h.f.Image()) || !slices.Equal(f.Trace(), h.f.Trace()) {
			t.Fatalf("All(%d, %s, %+v): %+v %d, not %+v %d", top, brief(l), p, got, e, want, why)
		}
		if why == api.OK && len(l) > 2 {
			whole++
		} else if len(want) > 2 {
			cut++
		}
	}
	if whole < 20 || cut < 20 {
		t.Error(whole, cut)
	}
}
