package walk

import (
	"slices"

	"satchel/api"
	"satchel/vfs"
)

// each tells all names in a directory, and in those that lie in it, behind ahead's. A directory comes ahead of what lies in it, and entries by name: that is path.Compare's order. The parts hold while they are told alone.
func each(f *vfs.FS, dir int, ahead []string, tell func(parts []string, node int)) {
	list, _ := f.List(dir) // none, if it is no directory
	for _, x := range list {
		parts := append(ahead, x.Name)
		tell(parts, x.Node)
		each(f, x.Node, parts, tell)
	}
}

// All is a tree's names, with their inodes, each directory ahead of what lies in it.
func All(f *vfs.FS, top int) []api.Found {
	var all []api.Found
	each(f, top, nil, func(parts []string, node int) {
		all = append(all, api.Found{Parts: slices.Clone(parts), Node: node, Kind: kind(f, node)})
	})
	return all
}

// Reach is a tree's inodes, rising.
func Reach(f *vfs.FS, top int) []int {
	if noTop(f, top) != api.OK {
		return nil
	}
	nodes := []int{top}
	each(f, top, nil, func(_ []string, node int) { nodes = append(nodes, node) })
	slices.Sort(nodes)
	return slices.Compact(nodes)
}

// Names is all names of an inode in a tree.
func Names(f *vfs.FS, top, node int) [][]string {
	var names [][]string
	each(f, top, nil, func(parts []string, other int) {
		if other == node {
			names = append(names, slices.Clone(parts))
		}
	})
	return names
}

// Clear takes away all that lies in a directory: how many entries.
func Clear(f *vfs.FS, dir int) (int, api.Errno) {
	if why := noTop(f, dir); why != api.OK {
		return 0, why
	}
	return empty(f, dir), api.OK
}

// empty takes a directory's entries away, the last one first, and ahead of a directory what lies in it: that is All's order turned about.
func empty(f *vfs.FS, dir int) int {
	list, _ := f.List(dir)
	count := len(list)
	for _, x := range slices.Backward(list) {
		if kind(f, x.Node) == api.Dir {
			count += empty(f, x.Node)
			f.Rmdir(dir, x.Name)
		} else {
			f.Unlink(dir, x.Name)
		}
	}
	return count
}
