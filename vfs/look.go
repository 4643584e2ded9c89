package vfs

import (
	"bytes"
	"slices"
	"strings"

	"satchel/api"
)

// spot is a name in a directory: where an entry is, or may be.
type spot struct {
	dir  int
	name string
}

// unfit is why there can be no entry at one of the spots. What is wrong with any number comes ahead of what is wrong with any kind, and that ahead of names.
func (f *FS) unfit(spots ...spot) api.Errno {
	for _, s := range spots {
		if f.inodes[s.dir] == nil {
			return api.ErrNode
		}
	}
	for _, s := range spots {
		if !f.isDir(s.dir) {
			return api.ErrDir
		}
	}
	for _, s := range spots {
		if !isName(s.name) {
			return api.ErrComponent
		}
	}
	return api.OK
}

// at is the inode that the entry at a spot names; 0, which no inode has, if there is no entry.
func (f *FS) at(s spot) int { return f.inodes[s.dir].entries[s.name] }

// found is the inode that the entry at a spot names, or why there is none.
func (f *FS) found(s spot) (int, api.Errno) {
	if why := f.unfit(s); why != api.OK {
		return 0, why
	}
	node := f.at(s)
	if node == 0 {
		return 0, api.ErrMissing
	}
	return node, api.OK
}

// Lookup is the inode that a directory's entry names.
func (f *FS) Lookup(dir int, name string) (int, api.Errno) { return f.found(spot{dir, name}) }

// directory is the directory that has a number, or why there is none.
func (f *FS) directory(dir int) (*inode, api.Errno) {
	n := f.inodes[dir]
	switch {
	case n == nil:
		return nil, api.ErrNode
	case n.kind != api.Dir:
		return nil, api.ErrDir
	}
	return n, api.OK
}

// Up is the directory that a directory lies in.
func (f *FS) Up(dir int) (int, api.Errno) {
	n, why := f.directory(dir)
	if why != api.OK {
		return 0, why
	}
	return n.up, api.OK
}

// List is a directory's entries, by name.
func (f *FS) List(dir int) ([]api.Named, api.Errno) {
	n, why := f.directory(dir)
	if why != api.OK {
		return nil, why
	}
	return n.list(), api.OK
}

func (n *inode) list() []api.Named {
	var list []api.Named
	for name, node := range n.entries {
		list = append(list, api.Named{Name: name, Node: node})
	}
	slices.SortFunc(list, func(a, b api.Named) int { return strings.Compare(a.Name, b.Name) })
	return list
}

// Stat is what is told of an inode.
func (f *FS) Stat(node int) (api.Stat, api.Errno) {
	n := f.inodes[node]
	if n == nil {
		return api.Stat{}, api.ErrNode
	}
	return api.Stat{Node: node, Kind: n.kind, Meta: n.meta, Links: n.links, Size: n.size()}, api.OK
}

// size: an inode has what its kind has alone, so that two of the three are nothing.
func (n *inode) size() int { return len(n.data) + len(n.entries) + len(n.target) }

// Read is a file's bytes from a place on, at most n of them.
func (f *FS) Read(node, at, n int) ([]byte, api.Errno) {
	file := f.inodes[node]
	switch {
	case file == nil:
		return nil, api.ErrNode
	case at < 0 || n < 0:
		return nil, api.ErrArg
	case file.kind != api.File:
		return nil, api.ErrKind
	}
	rest := file.data[min(at, len(file.data)):]
	return bytes.Clone(rest[:min(n, len(rest))]), api.OK
}

// Readlink is a symbolic link's target.
func (f *FS) Readlink(node int) (string, api.Errno) {
	n := f.inodes[node]
	switch {
	case n == nil:
		return "", api.ErrNode
	case n.kind != api.Symlink:
		return "", api.ErrKind
	}
	return n.target, api.OK
}
