package vfs

import (
	"bytes"

	"satchel/api"
)

// Write puts bytes into a file from a place on.
func (f *FS) Write(node, at int, b []byte) api.Errno {
	n := f.inodes[node]
	switch {
	case n == nil:
		return api.ErrNode
	case at < 0 || at > api.MaxFile || len(b) > api.MaxFile-at:
		return api.ErrArg
	case n.kind != api.File:
		return api.ErrKind
	}
	if len(b) > 0 { // no bytes stretch no file, wherever they are put
		if why := f.resize(n, max(len(n.data), at+len(b))); why != api.OK {
			return why
		}
		copy(n.data[at:], b)
	}
	f.did(api.Act{Op: api.OpWrite, Node: node, At: at, N: len(b)})
	return api.OK
}

// Resize cuts a file off, or puts zeros behind it.
func (f *FS) Resize(node, size int) api.Errno {
	n := f.inodes[node]
	switch {
	case n == nil:
		return api.ErrNode
	case size < 0 || size > api.MaxFile:
		return api.ErrArg
	case n.kind != api.File:
		return api.ErrKind
	}
	if why := f.resize(n, size); why != api.OK {
		return why
	}
	f.did(api.Act{Op: api.OpResize, Node: node, N: size})
	return api.OK
}

// resize gives a file a size, if there is room.
func (f *FS) resize(n *inode, size int) api.Errno {
	more := size - len(n.data)
	if more > f.bytes-f.held {
		return api.ErrSpace
	}
	f.held += more
	if more >= 0 {
		n.data = append(n.data, make([]byte, more)...)
	} else {
		// Not a piece of the old bytes: those of many files, each great once, would come to more than there is room for.
		n.data = bytes.Clone(n.data[:size])
	}
	return api.OK
}

// Change gives an inode a meta.
func (f *FS) Change(node int, m api.Meta) api.Errno {
	n := f.inodes[node]
	switch {
	case n == nil:
		return api.ErrNode
	case !isMeta(m):
		return api.ErrArg
	}
	n.meta = m
	f.did(api.Act{Op: api.OpMeta, Node: node})
	return api.OK
}
