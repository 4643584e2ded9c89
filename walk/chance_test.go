package walk_test

import (
	"fmt"
	"math/rand"
	"slices"
	"strings"
	"testing"

	"satchel/api"
	"satchel/path"
	"satchel/vfs"
	"satchel/walk"
)

// grow is all file systems that one call more comes to.
func grow(f *vfs.FS, targets []string) []*vfs.FS {
	var list []*vfs.FS
	m := api.Meta{Mode: 1}
	for _, n := range f.Image().List {
		for _, name := range []string{"a", "b"} {
			try := func(call func(g *vfs.FS) api.Errno) {
				if g := f.Clone(); call(g) == api.OK {
					list = append(list, g)
				}
			}
			try(func(g *vfs.FS) api.Errno { _, why := g.Mkdir(n.Number, name, m); return why })
			try(func(g *vfs.FS) api.Errno { _, why := g.Create(n.Number, name, m); return why })
			for _, target := range targets {
				try(func(g *vfs.FS) api.Errno { _, why := g.Symlink(n.Number, name, target, m); return why })
			}
			for _, x := range f.Image().List {
				try(func(g *vfs.FS) api.Errno { return g.Link(n.Number, name, x.Number) })
			}
		}
	}
	return list
}

// small is all file systems that up to so many calls come to, each once.
func small(calls int, targets ...string) []*vfs.FS {
	f, _ := vfs.New(9, 0)
	list, level := []*vfs.FS{f}, []*vfs.FS{f}
	seen := make(map[string]bool)
	for range calls {
		var next []*vfs.FS
		for _, f := range level {
			for _, g := range grow(f, targets) {
				if key := fmt.Sprint(g.Image()); !seen[key] {
					seen[key] = true
					next = append(next, g)
				}
			}
		}
		list, level = append(list, next...), next
	}
	return list
}

// texts is all lists of up to so many of the words.
func texts(most int, words ...string) [][]string {
	all, level := [][]string{nil}, [][]string{nil}
	for range most {
		var next [][]string
		for _, list := range level {
			for _, word := range words {
				next = append(next, slices.Concat(list, []string{word}))
			}
		}
		all, level = append(all, next...), next
	}
	return all
}

// P11.1, P11.3, P11.5, P11.7: on all small file systems, from all tops, all lists of a few parts.
func TestSmallFind(t *testing.T) {
	t.Parallel()
	lists := texts(3, "a", "b", "..")
	for _, f := range small(3, "a", "..") {
		h, m := held{t, f}, modelOf(f)
		h.unchanged("Find", func() {
			for top := 0; top <= m.Next; top++ {
				h.trees(m, top)
				all := m.all(top)
				for _, parts := range lists {
					n, _, why := h.find(m, top, parts)
					if why == api.OK && len(parts) > 0 && !slices.ContainsFunc(all, func(x api.Found) bool { return x.Node == n && slices.Equal(x.Parts, parts) }) {
						t.Fatalf("Find(%d, %q): %d is not reached so in %s", top, parts, n, brief(m.Image))
					}
				}
				for _, x := range walk.All(f, top) {
					if n, _, why := walk.Find(f, top, x.Parts); n != x.Node || why != api.OK {
						t.Fatalf("Find(%d, %q): %d %d in %s", top, x.Parts, n, why, brief(m.Image))
					}
				}
			}
		})
	}
}

// P11.4, P11.8, P11.10: on all small file systems, from all directories in all tops, all names of a few pieces.
func TestSmallFollow(t *testing.T) {
	t.Parallel()
	lists := texts(3, "a", "b", "..", "")
	for _, f := range small(3, "a", "b", "..", "/", "a/b/", "../b", "/a") {
		h, m := held{t, f}, modelOf(f)
		h.unchanged("Follow", func() {
			for top := 1; top < m.Next; top++ {
				reach := walk.Reach(f, top)
				for dir := 1; dir < m.Next; dir++ {
					if !m.isDir(dir) || !slices.Contains(reach, dir) {
						h.follow(m, top, dir, "a", true)
						continue
					}
					for _, parts := range lists {
						name := strings.Join(parts, "/")
						h.stays(m, top, dir, name, reach)
					}
				}
			}
		})
	}
}

// stays holds Follow to the model, and its place to what is reached from top.
func (h held) stays(m *model, top, dir int, name string, reach []int) {
	h.t.Helper()
	for _, last := range []bool{true, false} {
		if n, why := h.follow(m, top, dir, name, last); why == api.OK && !slices.Contains(reach, n) {
			h.t.Fatalf("Follow(%d, %d, %q, %v): %d is not in %d in %s", top, dir, name, last, n, reach, brief(m.Image))
		}
	}
}

// P11.8: without symbolic links Follow of a name is Find of its parts.
func TestSmallWithoutLinks(t *testing.T) {
	t.Parallel()
	for _, f := range small(4) {
		for top := range f.Image().Next {
			if !walk.Inside(f, top, top) {
				continue
			}
			for _, parts := range texts(4, "a", "b")[1:] {
				sameWay(t, f, top, parts)
			}
		}
	}
}

func sameWay(t *testing.T, f *vfs.FS, top int, parts []string) {
	t.Helper()
	n, _, why := walk.Find(f, top, parts)
	for _, last := range []bool{true, false} {
		if node, e := walk.Follow(f, top, top, strings.Join(parts, "/"), last); n != node || why != e {
			t.Fatalf("Find(%d, %q): %d %d, but Follow %d %d in %s", top, parts, n, why, node, e, brief(f.Image()))
		}
	}
}

// P11.2, P11.6, P11.9: on all small file systems, with room and without, in all tops.
func TestSmallChanges(t *testing.T) {
	t.Parallel()
	lists := texts(3, "a", "b", "..")
	for _, f := range small(3, "a") {
		image := f.Image()
		for top := 0; top <= image.Next; top++ {
			held{t, f.Clone()}.clear(top)
			for _, parts := range lists {
				held{t, f.Clone()}.make(top, parts, api.Meta{Mode: 2})
			}
		}
		image.Nodes = len(image.List) + 1
		for _, meta := range []api.Meta{{}, bad} {
			for _, parts := range lists {
				g, _ := vfs.Load(image)
				held{t, g}.make(1, parts, meta)
			}
		}
	}
}

func one[T any](r *rand.Rand, list ...T) T { return list[r.Intn(len(list))] }

// wild is a file system that calls by chance came to: deeper, with more names, and with numbers out of order.
func wild(r *rand.Rand, links bool) *vfs.FS {
	f, _ := vfs.New(40, 100)
	name := func() string { return one(r, "a", "b", "c", "d", "a.", "\xff") }
	for range 20 + r.Intn(100) {
		list := f.Image().List
		node := func() int { return list[r.Intn(len(list))].Number }
		dir := func() int {
			n := node()
			for range 5 {
				if is, _ := f.Stat(n); is.Kind != api.Dir {
					n = node()
				}
			}
			return n
		}
		m := api.Meta{Mode: uint32(r.Intn(4096))}
		switch r.Intn(12) {
		case 0, 1, 2, 3:
			f.Mkdir(dir(), name(), m)
		case 4, 5:
			n, _ := f.Create(dir(), name(), m)
			f.Write(n, 0, []byte(name()))
		case 6, 7:
			if links {
				f.Symlink(dir(), name(), someName(r), m)
			}
		case 8:
			f.Link(dir(), name(), node())
		case 9:
			f.Rename(dir(), name(), dir(), name())
		case 10:
			f.Unlink(dir(), name())
		case 11:
			f.Rmdir(dir(), name())
		}
	}
	f.Forget()
	return f
}

// someName is a name by chance, with pieces of all sorts.
func someName(r *rand.Rand) string {
	var pieces []string
	for range 1 + r.Intn(7) {
		pieces = append(pieces, one(r, "a", "b", "c", "d", "a.", "\xff", "a", "b", "..", ".", ""))
	}
	if name := strings.Join(pieces, "/"); name != "" {
		return name
	}
	return "/"
}

func someParts(r *rand.Rand, f *vfs.FS, top int) []string {
	var parts []string
	if all := walk.All(f, top); len(all) > 0 {
		parts = one(r, all...).Parts
	}
	for range r.Intn(3) {
		parts = append(parts, one(r, "a", "b", "c", "d", "..", ""))
	}
	return parts
}

// P11.1 to P11.10: on file systems by chance.
func TestChance(t *testing.T) {
	t.Parallel()
	seen := make(map[string]int)
	for seed := range int64(600) {
		r := rand.New(rand.NewSource(seed))
		h := held{t, wild(r, seed%4 > 0)}
		m := modelOf(h.f)
		number := func() int { return m.List[r.Intn(len(m.List))].Number }
		h.unchanged("looking", func() {
			for range 8 {
				top := number()
				h.trees(m, top)
				_, _, why := h.find(m, top, someParts(r, h.f, top))
				seen["find "+why.Error()]++
				reach := walk.Reach(h.f, top)
				for range 12 {
					dir, name := number(), someName(r)
					if r.Intn(9) > 0 {
						dir = top
					}
					_, why := h.follow(m, top, dir, name, true)
					seen["follow "+why.Error()]++
					h.stays(m, top, dir, name, reach)
				}
			}
		})
		for range 4 {
			top := one(r, walk.Reach(h.f, 1)...)
			_, made, why := h.make(top, someParts(r, h.f, top), api.Meta{Mode: uint32(r.Intn(4200))})
			seen["make "+why.Error()]++
			if made > 1 {
				seen["made many"]++
			}
		}
		for range 2 {
			_, why := h.clear(one(r, walk.Reach(h.f, 1)...))
			seen["clear "+why.Error()]++
		}
	}
	for what, errors := range map[string][]api.Errno{
		"find ":   {api.OK, api.ErrNone, api.ErrInWay, api.ErrNotDir},
		"follow ": {api.OK, api.ErrNone, api.ErrNotDir, api.ErrHops, api.ErrOutside},
		"make ":   {api.OK, api.ErrInWay, api.ErrNotDir, api.ErrComponent, api.ErrArg},
		"clear ":  {api.OK, api.ErrNotDir},
	} {
		for _, why := range errors {
			if seen[what+why.Error()] == 0 {
				t.Errorf("no %sanswered %d", what, why)
			}
		}
	}
	if seen["made many"] == 0 {
		t.Error("never many were made")
	}
}

// P11.8: without symbolic links Follow of a name is Find of its parts, on file systems by chance.
func TestChanceWithoutLinks(t *testing.T) {
	t.Parallel()
	for seed := range int64(300) {
		r := rand.New(rand.NewSource(seed))
		f := wild(r, false)
		for _, top := range walk.Reach(f, 1) {
			if !walk.Inside(f, 1, top) {
				continue
			}
			for range 20 {
				parts := someParts(r, f, top)
				if _, why := path.Join(parts); why == api.OK {
					sameWay(t, f, top, parts)
				}
			}
		}
	}
}

// answers is all that is told of a file system, as a text.
func answers(f *vfs.FS, r *rand.Rand) string {
	var text strings.Builder
	tell := func(x ...any) { fmt.Fprintln(&text, x...) }
	for _, n := range f.Image().List {
		top := n.Number
		tell(walk.All(f, top))
		tell(walk.Reach(f, top))
		for _, x := range f.Image().List {
			d, why := walk.Depth(f, top, x.Number)
			tell(walk.Names(f, top, x.Number), d, why, walk.Inside(f, top, x.Number))
		}
		for range 5 {
			n, at, why := walk.Find(f, top, someParts(r, f, top))
			tell(n, at, why)
			node, e := walk.Follow(f, top, top, someName(r), r.Intn(2) == 0)
			tell(node, e)
		}
	}
	return text.String()
}

// From arguments alone: the answers hang on the tree, and neither on how it came to be, nor on metas, on bytes and on room, nor on what was asked before.
func TestOfTheTreeAlone(t *testing.T) {
	t.Parallel()
	for seed := range int64(60) {
		f := wild(rand.New(rand.NewSource(seed)), true)
		asked := func(f *vfs.FS) string { return answers(f, rand.New(rand.NewSource(seed))) }
		want := asked(f)
		image := f.Image()
		image.Nodes, image.Bytes, image.Next = api.MaxNodes, api.MaxBytes, image.Next+5
		for i := range image.List {
			n := &image.List[i]
			n.Meta = api.Meta{Uid: 7, Time: int64(i)}
			if n.Kind == api.File {
				n.Data = append(n.Data, 'x')
			}
		}
		other, why := vfs.Load(image)
		if why != api.OK {
			t.Fatal(why)
		}
		for i, g := range []*vfs.FS{f, f.Clone(), other} {
			if got := asked(g); got != want {
				t.Fatalf("%d: %s, not %s", i, got, want)
			}
		}
	}
}
