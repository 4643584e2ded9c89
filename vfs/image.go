package vfs

import (
	"bytes"
	"maps"
	"slices"

	"satchel/api"
)

// Load is the file system that an image is.
func Load(x api.Image) (*FS, api.Errno) {
	if !Valid(x) {
		return nil, api.ErrForm
	}
	return build(x), api.OK
}

// build is the file system that an image is which can be.
func build(x api.Image) *FS {
	f := &FS{inodes: make(map[int]*inode, len(x.List)), nodes: x.Nodes, bytes: x.Bytes, next: x.Next}
	for _, n := range x.List {
		f.inodes[n.Number] = &inode{kind: n.Kind, meta: n.Meta, data: bytes.Clone(n.Data), target: n.Target}
		f.held += len(n.Data)
	}
	for _, n := range x.List {
		if n.Kind == api.Dir {
			f.inodes[n.Number].entries = make(map[string]int, len(n.Entries))
		}
		for _, e := range n.Entries {
			f.enter(spot{n.Number, e.Name}, e.Node)
		}
		if n.Number == root {
			f.inodes[root].links, f.inodes[root].up = 1, root
		}
	}
	return f
}

// Image is all of it but the trace.
func (f *FS) Image() api.Image {
	x := api.Image{Nodes: f.nodes, Bytes: f.bytes, Next: f.next}
	for _, number := range slices.Sorted(maps.Keys(f.inodes)) {
		n := f.inodes[number]
		x.List = append(x.List, api.Node{
			Number: number, Kind: n.kind, Meta: n.meta,
			Data: bytes.Clone(n.data), Target: n.target, Entries: n.list(),
		})
	}
	return x
}

// Valid tells whether an image can be.
func Valid(x api.Image) bool {
	return boundsCanBe(x) && inodesCanBe(x) && treeCanBe(x.List)
}

func boundsCanBe(x api.Image) bool {
	return 1 <= x.Nodes && x.Nodes <= api.MaxNodes &&
		0 <= x.Bytes && x.Bytes <= api.MaxBytes &&
		root < x.Next && x.Next <= api.MaxNumber &&
		1 <= len(x.List) && len(x.List) <= x.Nodes
}

// inodesCanBe is of inodes of which each can be, wherever entries lead.
func inodesCanBe(x api.Image) bool {
	first := x.List[0]
	if first.Number != root || first.Kind != api.Dir {
		return false
	}
	last, held := 0, 0
	for _, n := range x.List {
		if n.Number <= last || n.Number >= x.Next || !inodeCanBe(n) {
			return false
		}
		last = n.Number
		held += len(n.Data)
	}
	return held <= x.Bytes
}

func inodeCanBe(n api.Node) bool {
	data, target, entries := len(n.Data) == 0, n.Target == "", len(n.Entries) == 0
	switch n.Kind {
	case api.Dir:
		entries = entriesCanBe(n.Entries)
	case api.File:
		data = len(n.Data) <= api.MaxFile
	case api.Symlink:
		target = isTarget(n.Target)
	default:
		return false
	}
	return data && target && entries && isMeta(n.Meta)
}

func entriesCanBe(list []api.Named) bool {
	last := "" // stands ahead of all names
	for _, e := range list {
		if e.Name <= last || !isName(e.Name) {
			return false
		}
		last = e.Name
	}
	return true
}

// treeCanBe goes by entries from the root on; it comes to no directory twice, so that circles can't hold it.
func treeCanBe(list []api.Node) bool {
	nodes := make(map[int]api.Node, len(list))
	for _, n := range list {
		nodes[n.Number] = n
	}
	named := map[int]int{root: 1} // so that an entry that names the root is one too many
	todo := []int{root}
	for len(todo) > 0 {
		dir := todo[len(todo)-1]
		todo = todo[:len(todo)-1]
		for _, e := range nodes[dir].Entries {
			n, there := nodes[e.Node]
			named[e.Node]++
			switch {
			case !there:
				return false
			case n.Kind == api.Dir && named[e.Node] > 1:
				return false
			case n.Kind == api.Dir:
				todo = append(todo, e.Node)
			}
		}
	}
	return len(named) == len(list)
}
