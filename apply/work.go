package apply

import (
	"satchel/api"
	"satchel/vfs"
	"satchel/walk"
)

// parentMode is the mode of the directories that are made because they are missing.
const parentMode = 0o755

// work is an entry on its way out: nothing is wrong with it by itself, and its meta is without the bits that the policy takes away. (Both the file system and the entry have a Link, which is therefore called by its whole name.)
type work struct {
	*vfs.FS
	api.Entry
	names
	data   []byte
	policy api.Policy
	top    int
	place  int // the directory that it goes into
	file   int // of a hard link the file that it names; else 0, which no inode has
	done   api.Done
}

// bringOut makes in the file system what the entry says; with an error what was done by then stays.
func (w *work) bringOut() api.Errno {
	if why := w.enter(); why != api.OK {
		return why
	}
	if w.Kind == api.HardLink {
		if why := w.aim(); why != api.OK {
			return why
		}
	}
	there, why := w.Lookup(w.place, w.last)
	if why != api.OK { // it is missing: there is a directory, and the name can be one
		return w.add()
	}
	return w.meet(there)
}

// enter finds the directory that the entry goes into, or makes it.
func (w *work) enter() (why api.Errno) {
	if w.policy.Parents {
		w.place, w.done.Made, why = walk.Make(w.FS, w.top, w.dir, api.Meta{Mode: parentMode})
		return why
	}
	if w.place, _, why = walk.Find(w.FS, w.top, w.dir); why != api.OK {
		return why
	}
	switch w.kindOf(w.place) {
	case api.Symlink:
		return api.ErrInWay
	case api.File:
		return api.ErrNotDir
	}
	return api.OK
}

// aim finds the file that a hard link names.
func (w *work) aim() (why api.Errno) {
	if w.file, _, why = walk.Find(w.FS, w.top, w.link); why != api.OK {
		return why
	}
	if w.kindOf(w.file) != api.File {
		return api.ErrLink
	}
	return api.OK
}

// meet is what becomes of the entry where its name is taken already.
func (w *work) meet(there int) api.Errno {
	isDir := w.kindOf(there) == api.Dir
	switch {
	case w.policy.There == api.Skip:
		w.done.Skipped = true
		return api.OK
	case isDir && w.Kind == api.Dir:
		w.done.Node = there
		return w.Change(there, w.Meta)
	case there == w.file:
		w.done.Node = there
		return api.OK
	case isDir || w.policy.There == api.Keep:
		return api.ErrThere
	}
	if why := w.Unlink(w.place, w.last); why != api.OK {
		return why
	}
	w.done.Replaced = true
	return w.add()
}

// add makes the entry where its name is free.
func (w *work) add() (why api.Errno) {
	switch w.Kind {
	case api.Dir:
		w.done.Node, why = w.Mkdir(w.place, w.last, w.Meta)
	case api.Symlink:
		w.done.Node, why = w.Symlink(w.place, w.last, w.Entry.Link, w.Meta)
	case api.File:
		w.done.Node, why = w.Create(w.place, w.last, w.Meta)
		if why == api.OK && len(w.data) > 0 {
			why = w.Write(w.done.Node, 0, w.data)
		}
	case api.HardLink:
		w.done.Node, why = w.file, w.FS.Link(w.place, w.last, w.file)
	}
	return why
}

func (w *work) kindOf(node int) int {
	is, _ := w.Stat(node)
	return is.Kind
}
