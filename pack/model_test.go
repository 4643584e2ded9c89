package pack_test

import (
	"fmt"
	"slices"
	"strings"
	"testing"

	"satchel/api"
	"satchel/apply"
	"satchel/pack"
	"satchel/path"
	"satchel/vfs"
)

// modelJoin is P9.2: all faults in their order, of which the first one that is there counts.
func modelJoin(parts []string) (string, api.Errno) {
	if len(parts) == 0 {
		return "", api.ErrEmpty
	}
	for _, part := range parts {
		switch {
		case part == "" || part == ".":
			return "", api.ErrEmpty
		case part == "..":
			return "", api.ErrDots
		case strings.Contains(part, "\x00"):
			return "", api.ErrZero
		case strings.Contains(part, "/"):
			return "", api.ErrAbsolute
		case len(part) > 255:
			return "", api.ErrName
		}
	}
	name := strings.Join(parts, "/")
	switch {
	case len(parts) > 256:
		return "", api.ErrDeep
	case len(name) > 4096:
		return "", api.ErrLong
	}
	return name, api.OK
}

// model is a file system as its image alone: all that is asked is found by going through lists.
type model struct{ api.Image }

func modelOf(f *vfs.FS) model { return model{f.Image()} }

// at is an inode; one of no kind, if there is none of that number.
func (m model) at(number int) api.Node {
	for _, n := range m.List {
		if n.Number == number {
			return n
		}
	}
	return api.Node{}
}

// way is a name in a tree, as its components, and what it names.
type way struct {
	parts []string
	node  int
}

// key is a name's components as a text whose bytes stand in the order of path.Compare: no name has a byte 0.
func (w way) key() string { return strings.Join(w.parts, "\x00") }

// ways are all names in a directory's tree, in the order of path.Compare.
func (m model) ways(top int) []way {
	var all []way
	for level := []way{{nil, top}}; len(level) > 0; {
		var next []way
		for _, w := range level {
			for _, e := range m.at(w.node).Entries {
				next = append(next, way{slices.Concat(w.parts, []string{e.Name}), e.Node})
			}
		}
		all, level = append(all, next...), next
	}
	slices.SortFunc(all, func(a, b way) int { return strings.Compare(a.key(), b.key()) })
	return all
}

// first is the lowest name of an inode in a tree.
func first(all []way, node int) string {
	low := -1
	for i, w := range all {
		if w.node == node && (low < 0 || w.key() < all[low].key()) {
			low = i
		}
	}
	return strings.Join(all[low].parts, "/")
}

// entry is what is told of an inode by itself, under a name.
func (m model) entry(name string, node int, p api.Packing) api.Packed {
	n := m.at(node)
	x := api.Packed{Entry: api.Entry{Name: name, Kind: n.Kind, Meta: modelMeta(n.Meta, p)}}
	switch n.Kind {
	case api.File:
		x.Data, x.Entry.Size = n.Data, int64(len(n.Data))
	case api.Symlink:
		x.Entry.Link = n.Target
	}
	return x
}

func modelMeta(m api.Meta, p api.Packing) api.Meta {
	is := api.Meta{Mode: m.Mode}
	if !p.NoTimes {
		is.Time, is.Nano = m.Time, m.Nano
	}
	if !p.NoOwners {
		is.Uid, is.Gid = m.Uid, m.Gid
	}
	return is
}

// topFault is why nothing can be found in top.
func (m model) topFault(top int) api.Errno {
	switch m.at(top).Kind {
	case 0:
		return api.ErrOutside
	case api.Dir:
		return api.OK
	}
	return api.ErrNotDir
}

// tree is P21.1, in the order of its words.
func (m model) tree(top int, p api.Packing) ([]api.Packed, api.Errno) {
	if why := m.topFault(top); why != api.OK {
		return nil, why
	}
	all := m.ways(top)
	var list []api.Packed
	for _, w := range all {
		name, why := modelJoin(w.parts)
		if why != api.OK {
			return nil, why
		}
		x := m.entry(name, w.node, p)
		if link := first(all, w.node); x.Entry.Kind == api.File && !p.Apart && link != name {
			x.Data, x.Entry.Kind, x.Entry.Size, x.Entry.Link = nil, api.HardLink, 0, link
		}
		list = append(list, x)
	}
	if sum(list) > 4194304 {
		return nil, api.ErrLong
	}
	return list, api.OK
}

func sum(list []api.Packed) int64 {
	all := int64(0)
	for _, x := range list {
		all += x.Entry.Size
	}
	return all
}

// one is P21.2, in the order of its words.
func (m model) one(top int, parts []string, p api.Packing) (api.Packed, api.Errno) {
	none := api.Packed{}
	name, why := modelJoin(parts)
	if why != api.OK {
		return none, why
	}
	if why = m.topFault(top); why != api.OK {
		return none, why
	}
	place := top
	for i, part := range parts {
		n := m.at(place)
		if i > 0 && n.Kind != api.Dir {
			return none, map[int]api.Errno{api.File: api.ErrNotDir, api.Symlink: api.ErrInWay}[n.Kind]
		}
		there := slices.IndexFunc(n.Entries, func(e api.Named) bool { return e.Name == part })
		if there < 0 {
			return none, api.ErrNone
		}
		place = n.Entries[there].Node
	}
	return m.entry(name, place, p), api.OK
}

// brief is a value as a text that is not too long to be looked at.
func brief(x any) string {
	text := fmt.Sprintf("%+v", x)
	if len(text) > 1500 {
		return text[:1500] + " .."
	}
	return text
}

func sameNode(a, b api.Node) bool {
	return a.Number == b.Number && a.Kind == b.Kind && a.Meta == b.Meta && a.Target == b.Target &&
		string(a.Data) == string(b.Data) && slices.Equal(a.Entries, b.Entries)
}

func sameImage(a, b api.Image) bool {
	return a.Nodes == b.Nodes && a.Bytes == b.Bytes && a.Next == b.Next && slices.EqualFunc(a.List, b.List, sameNode)
}

func samePacked(a, b api.Packed) bool { return a.Entry == b.Entry && string(a.Data) == string(b.Data) }

func sameList(a, b []api.Packed) bool { return slices.EqualFunc(a, b, samePacked) }

// packings are all there are.
func packings() []api.Packing {
	var list []api.Packing
	for i := range 8 {
		list = append(list, api.Packing{NoTimes: i&1 > 0, NoOwners: i&2 > 0, Apart: i&4 > 0})
	}
	return list
}

// held is a file system on which each call is held to the model and to what the chapter says that it comes to.
type held struct {
	t *testing.T
	f *vfs.FS
}

// unchanged makes calls that must leave the file system as it is, its trace too.
func (h held) unchanged(what string, call func()) {
	h.t.Helper()
	image, trace := h.f.Image(), h.f.Trace()
	call()
	if !sameImage(image, h.f.Image()) || !slices.Equal(trace, h.f.Trace()) {
		h.t.Fatalf("%s: was %s, is %s", what, brief(image), brief(h.f.Image()))
	}
}

// tree packs a tree, and holds Tree and Sizes to all promises.
func (h held) tree(top int, p api.Packing) ([]api.Packed, api.Errno) {
	h.t.Helper()
	m := modelOf(h.f)
	want, e := m.tree(top, p)
	told := func() string { return fmt.Sprintf("(%d, %+v) of %s", top, p, brief(m.Image)) }
	var list []api.Packed
	var why api.Errno
	h.unchanged("Tree and Sizes", func() {
		list, why = pack.Tree(h.f, top, p)
		if !sameList(list, want) || why != e {
			h.t.Fatalf("Tree%s: %s %d, not %s %d", told(), brief(list), why, brief(want), e)
		}
		n, size, other := pack.Sizes(h.f, top, p)
		if n != len(want) || size != sum(want) || other != e {
			h.t.Fatalf("Sizes%s: %d %d %d, not %d %d %d", told(), n, size, other, len(want), sum(want), e)
		}
		again, other := pack.Tree(h.f, top, p)
		if !sameList(list, again) || other != why {
			h.t.Fatalf("Tree%s: %s %d, and then %s %d", told(), brief(list), why, brief(again), other)
		}
	})
	if fault := disorder(list); fault != "" {
		h.t.Fatalf("Tree%s: %s: %s", told(), brief(list), fault)
	}
	if why == api.OK {
		h.back(m, top, list, p)
	}
	return list, why
}

// disorder is P21.5: what does not stand where it must.
func disorder(list []api.Packed) string {
	at := make(map[string]int)
	var last []string
	for i, x := range list {
		parts := strings.Split(x.Entry.Name, "/")
		if i > 0 && path.Compare(last, parts) != -1 {
			return "names do not rise at " + x.Entry.Name
		}
		last = parts
		at[x.Entry.Name] = x.Entry.Kind
		if dir := strings.Join(parts[:len(parts)-1], "/"); dir != "" && at[dir] != api.Dir {
			return "no directory is ahead of " + x.Entry.Name
		}
		if x.Entry.Kind == api.HardLink && at[x.Entry.Link] != api.File {
			return "no file is ahead of " + x.Entry.Name
		}
	}
	return ""
}

// one packs one name, and holds One to all promises.
func (h held) one(top int, parts []string, p api.Packing) (api.Packed, api.Errno) {
	h.t.Helper()
	m := modelOf(h.f)
	want, e := m.one(top, parts, p)
	var x api.Packed
	var why api.Errno
	h.unchanged("One", func() { x, why = pack.One(h.f, top, parts, p) })
	if !samePacked(x, want) || why != e {
		h.t.Fatalf("One(%d, %.200q, %+v) of %s: %s %d, not %s %d", top, parts, p, brief(m.Image), brief(x), why, brief(want), e)
	}
	return x, why
}

// back is P21.6: what was packed, brought out into a new file system and into one that has the tree, too.
func (h held) back(m model, top int, list []api.Packed, p api.Packing) {
	h.t.Helper()
	image := m.Image
	image.Nodes, image.Bytes = 4096, 4194304
	old, why := vfs.Load(image)
	if why != api.OK {
		h.t.Fatal(why)
	}
	other, _ := vfs.New(4096, 4194304)
	h.brought(old, top, list, p, other, 1)
	if sum(list) > 2097152 || len(list)+len(m.List) > 4000 {
		return // there may be no room for it twice
	}
	for _, dir := range []int{1, top} {
		same := old.Clone()
		into, why := same.Mkdir(dir, "where it goes", api.Meta{Mode: 7})
		if why != api.OK {
			h.t.Fatal(why)
		}
		h.brought(old, top, list, p, same, into)
	}
}

// brought brings a list out into an empty directory, and holds that one to the tree of which the list was told.
func (h held) brought(old *vfs.FS, top int, list []api.Packed, p api.Packing, g *vfs.FS, into int) {
	h.t.Helper()
	m := modelOf(old)
	leaves := slices.ContainsFunc(list, func(x api.Packed) bool {
		parts := strings.Split(x.Entry.Name, "/")
		return x.Entry.Kind == api.Symlink && path.Leaves(parts[:len(parts)-1], x.Entry.Link)
	})
	done, why := apply.All(g, into, list, api.Policy{Leaving: leaves})
	if len(done) != len(list) || why != api.OK {
		h.t.Fatalf("%s into %d: %s %d", brief(list), into, brief(done), why)
	}
	// Whatever was left out of it, what was brought out is what the list says.
	if again, why := pack.Tree(g, into, api.Packing{}); !sameList(again, list) || why != api.OK {
		h.t.Fatalf("%s is brought out as %s %d", brief(list), brief(again), why)
	}
	whole := p == api.Packing{} && !manyLinks(m, top)
	g.Change(into, m.at(top).Meta)
	if whole && !vfs.Alike(old, top, g, into) {
		h.t.Fatalf("%s is brought out of %s as %s", brief(list), brief(m.Image), brief(g.Image()))
	}
}

// manyLinks tells whether a symbolic link has several names in a tree.
func manyLinks(m model, top int) bool {
	seen := make(map[int]bool)
	for _, w := range m.ways(top) {
		if m.at(w.node).Kind == api.Symlink && seen[w.node] {
			return true
		}
		seen[w.node] = true
	}
	return false
}

// whole packs a tree in all ways, and each of its names alone.
func (h held) whole(top int) {
	h.t.Helper()
	for _, p := range packings() {
		h.tree(top, p)
		for _, w := range modelOf(h.f).ways(top) {
			h.one(top, w.parts, p)
		}
	}
}
