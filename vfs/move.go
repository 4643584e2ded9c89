package vfs

import "satchel/api"

// Unlink takes away an entry that names no directory.
func (f *FS) Unlink(dir int, name string) api.Errno {
	return f.remove(api.OpUnlink, spot{dir, name}, false)
}

// Rmdir takes away an entry that names a directory without entries.
func (f *FS) Rmdir(dir int, name string) api.Errno {
	return f.remove(api.OpRmdir, spot{dir, name}, true)
}

// remove takes an entry away that names a directory, or that names none.
func (f *FS) remove(op int, s spot, directory bool) api.Errno {
	node, why := f.found(s)
	switch {
	case why != api.OK:
		return why
	case f.isDir(node) != directory:
		return api.ErrKind
	case f.hasEntries(node):
		return api.ErrFull
	}
	f.leave(s)
	f.did(api.Act{Op: op, Dir: s.dir, Name: s.name, Node: node})
	return api.OK
}

// Rename puts an entry elsewhere, and takes away what is there.
func (f *FS) Rename(dir int, name string, to int, other string) api.Errno {
	from, onto := spot{dir, name}, spot{to, other}
	if why := f.unfit(from, onto); why != api.OK {
		return why
	}
	x, y := f.at(from), f.at(onto)
	if x == 0 {
		return api.ErrMissing
	}
	if x != y {
		if why := f.stuck(x, y, to); why != api.OK {
			return why
		}
		f.move(from, onto)
	}
	f.did(api.Act{Op: api.OpRename, Dir: dir, Name: name, Node: x, To: to, Other: other})
	return api.OK
}

// stuck is why x can't go into the directory to, in the place of y (0: of nothing).
func (f *FS) stuck(x, y, to int) api.Errno {
	switch {
	case y != 0 && f.isDir(x) != f.isDir(y):
		return api.ErrKind
	case f.isDir(x) && f.within(to, x):
		return api.ErrLoop
	case y != 0 && f.hasEntries(y):
		return api.ErrFull
	}
	return api.OK
}

// within tells whether a directory is top, or lies in it, or in a directory that does, and so on.
func (f *FS) within(dir, top int) bool {
	for dir != top && dir != root {
		dir = f.inodes[dir].up
	}
	return dir == top
}

// move names an inode anew ahead of taking its old entry away: with its last entry it would be gone.
func (f *FS) move(from, onto spot) {
	x := f.at(from)
	if f.at(onto) != 0 {
		f.leave(onto)
	}
	f.enter(onto, x)
	f.leave(from)
}

// leave takes the entry at a spot away, and with the last one that names an inode that inode.
func (f *FS) leave(s spot) {
	node := f.at(s)
	delete(f.inodes[s.dir].entries, s.name)
	n := f.inodes[node]
	n.links--
	if n.links == 0 {
		f.held -= len(n.data)
		delete(f.inodes, node)
	}
}

func (f *FS) hasEntries(node int) bool { return len(f.inodes[node].entries) > 0 }
