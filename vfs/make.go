package vfs

import "satchel/api"

// Mkdir makes a directory, and an entry that names it.
func (f *FS) Mkdir(dir int, name string, m api.Meta) (int, api.Errno) {
	return f.add(api.OpMkdir, spot{dir, name}, inode{kind: api.Dir, meta: m, entries: make(map[string]int)})
}

// Create makes a file of no bytes, and an entry that names it.
func (f *FS) Create(dir int, name string, m api.Meta) (int, api.Errno) {
	return f.add(api.OpCreate, spot{dir, name}, inode{kind: api.File, meta: m})
}

// Symlink makes a symbolic link, and an entry that names it.
func (f *FS) Symlink(dir int, name, target string, m api.Meta) (int, api.Errno) {
	return f.add(api.OpSymlink, spot{dir, name}, inode{kind: api.Symlink, meta: m, target: target})
}

// add gives an inode the next number, and a spot the entry that names it.
func (f *FS) add(op int, s spot, n inode) (int, api.Errno) {
	why := f.unfit(s)
	switch {
	case why != api.OK:
		return 0, why
	case n.kind == api.Symlink && !isTarget(n.target):
		return 0, api.ErrTarget
	case !isMeta(n.meta):
		return 0, api.ErrArg
	case f.at(s) != 0:
		return 0, api.ErrThere
	case len(f.inodes) >= f.nodes || f.next >= api.MaxNumber:
		return 0, api.ErrSpace
	}
	number := f.next
	f.next++
	f.inodes[number] = &n
	f.enter(s, number)
	f.did(api.Act{Op: op, Dir: s.dir, Name: s.name, Node: number})
	return number, api.OK
}

// Link makes another entry for what is no directory.
func (f *FS) Link(dir int, name string, node int) api.Errno {
	s := spot{dir, name}
	if f.inodes[node] == nil {
		return api.ErrNode // and so it is if dir is missing, so that which one is looked at first is not to be seen
	}
	why := f.unfit(s)
	switch {
	case why != api.OK:
		return why
	case f.at(s) != 0:
		return api.ErrThere
	case f.isDir(node):
		return api.ErrKind
	}
	f.enter(s, node)
	f.did(api.Act{Op: api.OpLink, Dir: dir, Name: name, Node: node})
	return api.OK
}

// enter puts an entry that names an inode at a spot where none is.
func (f *FS) enter(s spot, node int) {
	f.inodes[s.dir].entries[s.name] = node
	n := f.inodes[node]
	n.links++
	if n.kind == api.Dir {
		n.up = s.dir
	}
}
