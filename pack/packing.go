package pack

import (
	"satchel/api"
	"satchel/path"
	"satchel/vfs"
	"satchel/walk"
)

// packing is a tree on its way into entries.
type packing struct {
	*vfs.FS
	api.Packing
	things []thing
	firsts map[int]int // by a file's inode the place in things of its first name
	size   int64
}

// thing is an entry whose bytes are not read yet, and the inode that has them.
type thing struct {
	api.Entry
	node int
}

// look goes through a directory's tree. It reads no bytes, so that a tree of too many costs nothing.
func look(f *vfs.FS, top int, p api.Packing) (*packing, api.Errno) {
	if _, _, why := walk.Find(f, top, nil); why != api.OK {
		return nil, why
	}
	w := &packing{FS: f, Packing: p, firsts: make(map[int]int)}
	for _, x := range walk.All(f, top) {
		name, why := path.Join(x.Parts)
		if why != api.OK {
			return nil, why
		}
		w.add(w.thing(name, x.Node))
	}
	if w.size > api.MaxBytes {
		return nil, api.ErrLong
	}
	return w, api.OK
}

// add takes the next thing of a tree; a file that was told already as a hard link.
func (w *packing) add(x thing) {
	if x.Kind == api.File && !w.Apart {
		first, again := w.firsts[x.node]
		if again {
			x.Kind, x.Link, x.Size = api.HardLink, w.things[first].Name, 0
		} else {
			w.firsts[x.node] = len(w.things)
		}
	}
	w.things = append(w.things, x)
	w.size += x.Size
}

// thing is what an inode is by itself, under a name.
func (w *packing) thing(name string, node int) thing {
	is, _ := w.Stat(node)
	x := thing{api.Entry{Name: name, Kind: is.Kind, Meta: w.kept(is.Meta)}, node}
	switch is.Kind {
	case api.File:
		x.Size = int64(is.Size)
	case api.Symlink:
		x.Link, _ = w.Readlink(node)
	}
	return x
}

// kept is a meta without what is not to be told.
func (w *packing) kept(m api.Meta) api.Meta {
	if w.NoTimes {
		m.Time, m.Nano = 0, 0
	}
	if w.NoOwners {
		m.Uid, m.Gid = 0, 0
	}
	return m
}

// packed is a thing with its bytes, if it is told as a file.
func (w *packing) packed(x thing) api.Packed {
	var data []byte
	if x.Kind == api.File {
		data, _ = w.Read(x.node, 0, int(x.Size))
	}
	return api.Packed{Entry: x.Entry, Data: data}
}
