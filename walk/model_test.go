package walk_test

import (
	"fmt"
	"reflect"
	"slices"
	"strings"
	"testing"

	"satchel/api"
	"satchel/path"
	"satchel/vfs"
	"satchel/walk"
)

// model is a file system as its image alone: all that is asked is found by going through lists, as the chapter's words say it.
type model struct {
	api.Image
	acts []api.Act // what Make and Clear did
}

func modelOf(f *vfs.FS) *model { return &model{Image: f.Image()} }

// inode is the inode of a number; one of no kind, if there is none.
func (m *model) inode(number int) api.Node {
	for _, n := range m.List {
		if n.Number == number {
			return n
		}
	}
	return api.Node{}
}

func (m *model) isDir(number int) bool { return m.inode(number).Kind == api.Dir }

// entry is what a directory's entry of a name names; 0, if it has none.
func (m *model) entry(dir int, name string) int {
	for _, e := range m.inode(dir).Entries {
		if e.Name == name {
			return e.Node
		}
	}
	return 0
}

// above is the directory that has an entry for another one.
func (m *model) above(dir int) int {
	for _, n := range m.List {
		for _, e := range n.Entries {
			if e.Node == dir {
				return n.Number
			}
		}
	}
	return 0
}

// topFault is why a call has no directory to begin in.
func (m *model) topFault(top int) api.Errno {
	switch m.inode(top).Kind {
	case 0:
		return api.ErrOutside
	case api.Dir:
		return api.OK
	}
	return api.ErrNotDir
}

// wayFault is why an inode is no directory to go through.
func (m *model) wayFault(node int) api.Errno {
	return map[int]api.Errno{api.Dir: api.OK, api.Symlink: api.ErrInWay, api.File: api.ErrNotDir}[m.inode(node).Kind]
}

func (m *model) find(top int, parts []string) (int, int, api.Errno) {
	if why := m.topFault(top); why != api.OK {
		return 0, 0, why
	}
	for i, part := range parts {
		node := m.entry(top, part)
		if node == 0 {
			return 0, i, api.ErrNone
		}
		if why := m.wayFault(node); why != api.OK && i != len(parts)-1 {
			return 0, i, why
		}
		top = node
	}
	return top, 0, api.OK
}

// mkdir is vfs.Mkdir of a name that no entry has.
func (m *model) mkdir(dir int, name string, meta api.Meta) (int, api.Errno) {
	switch {
	case len(name) < 1 || len(name) > 255 || strings.ContainsAny(name, "/\x00") || name == "." || name == "..":
		return 0, api.ErrComponent
	case meta.Mode > 4095 || meta.Nano < 0 || meta.Nano > 999999999:
		return 0, api.ErrArg
	case len(m.List) == m.Nodes || m.Next == api.MaxNumber:
		return 0, api.ErrSpace
	}
	number := m.Next
	m.Next++
	for i := range m.List {
		if n := &m.List[i]; n.Number == dir {
			n.Entries = append(n.Entries, api.Named{Name: name, Node: number})
			slices.SortFunc(n.Entries, func(a, b api.Named) int { return strings.Compare(a.Name, b.Name) })
		}
	}
	m.List = append(m.List, api.Node{Number: number, Kind: api.Dir, Meta: meta})
	m.acts = append(m.acts, api.Act{Op: api.OpMkdir, Dir: dir, Name: name, Node: number})
	return number, api.OK
}

func (m *model) make(top int, parts []string, meta api.Meta) (int, int, api.Errno) {
	if why := m.topFault(top); why != api.OK {
		return 0, 0, why
	}
	for _, part := range parts {
		node, why := m.entry(top, part), api.OK
		if node == 0 {
			node, why = m.mkdir(top, part, meta)
		} else {
			why = m.wayFault(node)
		}
		if why != api.OK {
			return 0, len(m.acts), why
		}
		top = node
	}
	return top, len(m.acts), api.OK
}

// all goes down level by level, and puts what it found in order afterwards.
func (m *model) all(top int) []api.Found {
	var all []api.Found
	level := []api.Found{{Node: top}}
	for len(level) > 0 {
		var next []api.Found
		for _, x := range level {
			for _, e := range m.inode(x.Node).Entries {
				next = append(next, api.Found{Parts: slices.Concat(x.Parts, []string{e.Name}), Node: e.Node, Kind: m.inode(e.Node).Kind})
			}
		}
		all, level = append(all, next...), next
	}
	slices.SortFunc(all, func(a, b api.Found) int { return path.Compare(a.Parts, b.Parts) })
	return all
}

// depth is how many parts lead to a directory.
func (m *model) depth(top, dir int) (int, api.Errno) {
	if !m.isDir(top) || !m.isDir(dir) {
		return 0, api.ErrOutside
	}
	if top == dir {
		return 0, api.OK
	}
	for _, x := range m.all(top) {
		if x.Node == dir {
			return len(x.Parts), api.OK
		}
	}
	return 0, api.ErrOutside
}

// follow has all pieces that are ahead of it in one list: those of a target are laid ahead of the others.
func (m *model) follow(top, dir int, name string, last bool) (int, api.Errno) {
	if _, why := m.depth(top, dir); why != api.OK {
		return 0, api.ErrOutside
	}
	if name == "" {
		return 0, api.ErrNone
	}
	type ahead struct {
		piece string
		stops bool // a symbolic link is not followed here
	}
	var list []ahead
	place, hops := dir, 0
	lay := func(text string, last bool) {
		var front []ahead
		for _, piece := range strings.Split(text, "/") {
			front = append(front, ahead{piece: piece})
		}
		front[len(front)-1].stops = !last
		list = append(front, list...)
		if text[0] == '/' {
			place = top
		}
	}
	for lay(name, last); len(list) > 0; {
		now := list[0]
		list = list[1:]
		if !m.isDir(place) {
			return 0, api.ErrNotDir
		}
		if now.piece == "" || now.piece == "." {
			continue
		}
		if now.piece == ".." {
			if place != top {
				place = m.above(place)
			}
			continue
		}
		node := m.entry(place, now.piece)
		if node == 0 {
			return 0, api.ErrNone
		}
		if x := m.inode(node); x.Kind == api.Symlink && !now.stops {
			if hops++; hops > 40 {
				return 0, api.ErrHops
			}
			lay(x.Target, true)
			continue
		}
		place = node
	}
	return place, api.OK
}

func (m *model) reach(top int) []int {
	if !m.isDir(top) {
		return nil
	}
	at := map[int]bool{top: true}
	for _, x := range m.all(top) {
		at[x.Node] = true
	}
	var list []int
	for _, n := range m.List {
		if at[n.Number] {
			list = append(list, n.Number)
		}
	}
	return list
}

func (m *model) names(top, node int) [][]string {
	var names [][]string
	for _, x := range m.all(top) {
		if x.Node == node {
			names = append(names, x.Parts)
		}
	}
	return names
}

// clear takes away one entry after the other, and behind each what no entry names any more.
func (m *model) clear(dir int) (int, api.Errno) {
	if why := m.topFault(dir); why != api.OK {
		return 0, why
	}
	all := m.all(dir)
	slices.Reverse(all)
	for _, x := range all {
		in, _, _ := m.find(dir, x.Parts[:len(x.Parts)-1])
		name := x.Parts[len(x.Parts)-1]
		op := api.OpUnlink
		if x.Kind == api.Dir {
			op = api.OpRmdir
		}
		m.acts = append(m.acts, api.Act{Op: op, Dir: in, Name: name, Node: x.Node})
		for i, n := range m.List {
			m.List[i].Entries = slices.DeleteFunc(n.Entries, func(e api.Named) bool { return n.Number == in && e.Name == name })
		}
		m.List = slices.DeleteFunc(m.List, func(n api.Node) bool { return n.Number == x.Node && len(m.names(1, x.Node)) == 0 })
	}
	return len(all), api.OK
}

// brief is a value as a text that is not too long to be looked at.
func brief(x any) string {
	text := fmt.Sprintf("%+v", x)
	if len(text) > 1500 {
		return text[:1500] + " .."
	}
	return text
}

func sameFound(a, b []api.Found) bool {
	return slices.EqualFunc(a, b, func(x, y api.Found) bool {
		return x.Node == y.Node && x.Kind == y.Kind && slices.Equal(x.Parts, y.Parts)
	})
}

func sameLists(a, b [][]string) bool { return slices.EqualFunc(a, b, slices.Equal) }

func sameNode(a, b api.Node) bool {
	entries := slices.Equal(a.Entries, b.Entries)
	data := slices.Equal(a.Data, b.Data)
	a.Entries, b.Entries, a.Data, b.Data = nil, nil, nil, nil
	return entries && data && reflect.DeepEqual(a, b)
}

func sameImage(a, b api.Image) bool {
	return a.Nodes == b.Nodes && a.Bytes == b.Bytes && a.Next == b.Next && slices.EqualFunc(a.List, b.List, sameNode)
}

// held is a file system that each call is held to the model on.
type held struct {
	t *testing.T
	f *vfs.FS
}

// unchanged makes a call that must leave the file system as it is, its trace too.
func (h held) unchanged(what string, call func()) {
	h.t.Helper()
	image, trace := h.f.Image(), h.f.Trace()
	call()
	if !sameImage(image, h.f.Image()) || !slices.Equal(trace, h.f.Trace()) {
		h.t.Fatalf("%s: was %s, is %s", what, brief(image), brief(h.f.Image()))
	}
}

func (h held) find(m *model, top int, parts []string) (int, int, api.Errno) {
	h.t.Helper()
	n, at, why := walk.Find(h.f, top, parts)
	if node, place, e := m.find(top, parts); n != node || at != place || why != e {
		h.t.Fatalf("Find(%d, %q): %d %d %d, not %d %d %d in %s", top, parts, n, at, why, node, place, e, brief(m.Image))
	}
	return n, at, why
}

func (h held) follow(m *model, top, dir int, name string, last bool) (int, api.Errno) {
	h.t.Helper()
	n, why := walk.Follow(h.f, top, dir, name, last)
	if node, e := m.follow(top, dir, name, last); n != node || why != e {
		h.t.Fatalf("Follow(%d, %d, %q, %v): %d %d, not %d %d in %s", top, dir, name, last, n, why, node, e, brief(m.Image))
	}
	return n, why
}

// trees holds All, Reach, Names, Inside and Depth to the model, of a top and all numbers about.
func (h held) trees(m *model, top int) {
	h.t.Helper()
	if got, want := walk.All(h.f, top), m.all(top); !sameFound(got, want) {
		h.t.Fatalf("All(%d): %s, not %s in %s", top, brief(got), brief(want), brief(m.Image))
	}
	if got, want := walk.Reach(h.f, top), m.reach(top); !slices.Equal(got, want) {
		h.t.Fatalf("Reach(%d): %d, not %d in %s", top, got, want, brief(m.Image))
	}
	for node := -1; node <= m.Next; node++ {
		if got, want := walk.Names(h.f, top, node), m.names(top, node); !sameLists(got, want) {
			h.t.Fatalf("Names(%d, %d): %q, not %q in %s", top, node, got, want, brief(m.Image))
		}
		got, why := walk.Depth(h.f, top, node)
		want, e := m.depth(top, node)
		if inside := walk.Inside(h.f, top, node); got != want || why != e || inside != (e == api.OK) {
			h.t.Fatalf("Depth(%d, %d): %d %d, Inside %v, not %d %d in %s", top, node, got, why, inside, want, e, brief(m.Image))
		}
	}
}

// changed makes a call that changes the file system, and holds its answers, its image and its trace to the model's; and both images to P11.9.
func (h held) changed(what string, top int, call func() (int, int, api.Errno), like func(*model) (int, int, api.Errno)) (int, int, api.Errno) {
	h.t.Helper()
	h.f.Forget()
	old, m := modelOf(h.f), modelOf(h.f)
	n, count, why := call()
	if node, many, e := like(m); n != node || count != many || why != e {
		h.t.Fatalf("%s: %d %d %d, not %d %d %d in %s", what, n, count, why, node, many, e, brief(old.Image))
	}
	if !sameImage(h.f.Image(), m.Image) {
		h.t.Fatalf("%s: %s, not %s", what, brief(h.f.Image()), brief(m.Image))
	}
	if !slices.Equal(h.f.Trace(), m.acts) {
		h.t.Fatalf("%s: did %+v, not %+v", what, h.f.Trace(), m.acts)
	}
	h.outside(what, old, top)
	return n, count, why
}

// outside holds what lies outside of a top, and all inodes that stay, to what they were.
func (h held) outside(what string, old *model, top int) {
	h.t.Helper()
	now := modelOf(h.f)
	for _, n := range old.List {
		x := now.inode(n.Number)
		_, why := old.depth(top, n.Number)
		if why == api.OK { // its entries may be others
			x.Entries, n.Entries = nil, nil
		}
		gone := x.Kind == 0 && len(old.names(top, n.Number)) == len(old.names(1, n.Number))
		if !gone && !sameNode(x, n) {
			h.t.Fatalf("%s: outside of %d was %s, is %s", what, top, brief(n), brief(x))
		}
	}
}

func (h held) make(top int, parts []string, meta api.Meta) (int, int, api.Errno) {
	h.t.Helper()
	return h.changed(fmt.Sprintf("Make(%d, %q)", top, parts), top,
		func() (int, int, api.Errno) { return walk.Make(h.f, top, parts, meta) },
		func(m *model) (int, int, api.Errno) { return m.make(top, parts, meta) })
}

func (h held) clear(dir int) (int, api.Errno) {
	h.t.Helper()
	_, n, why := h.changed(fmt.Sprintf("Clear(%d)", dir), dir,
		func() (int, int, api.Errno) { n, why := walk.Clear(h.f, dir); return 0, n, why },
		func(m *model) (int, int, api.Errno) { n, why := m.clear(dir); return 0, n, why })
	return n, why
}
