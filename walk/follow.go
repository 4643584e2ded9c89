package walk

import (
	"strings"

	"satchel/api"
	"satchel/vfs"
)

const slash = "/"

// follower goes through names, and counts the symbolic links that it follows: each target that it is in the midst of was a hop, so that it ends wherever they point.
type follower struct {
	*vfs.FS
	top  int
	hops int
}

// Follow is the inode to which a text leads from a directory, links being followed, never out of a top.
func Follow(f *vfs.FS, top, dir int, name string, last bool) (int, api.Errno) {
	switch {
	case !Inside(f, top, dir):
		return 0, api.ErrOutside
	case name == "":
		return 0, api.ErrNone
	}
	w := follower{FS: f, top: top}
	return w.through(dir, name, last)
}

// through is where a name's pieces lead from a place.
func (w *follower) through(place int, name string, last bool) (int, api.Errno) {
	if strings.HasPrefix(name, slash) {
		place = w.top
	}
	for more := true; more; {
		var piece string
		var why api.Errno
		piece, name, more = strings.Cut(name, slash)
		if place, why = w.step(place, piece, more || last); why != api.OK {
			return 0, why
		}
	}
	return place, api.OK
}

// step is where one piece leads from a place; a symbolic link that it names is followed on, or is the place itself.
func (w *follower) step(place int, piece string, on bool) (int, api.Errno) {
	up, why := w.Up(place)
	if why != api.OK {
		return 0, api.ErrNotDir
	}
	switch {
	case piece == "" || piece == ".":
		return place, api.OK
	case piece == ".." && place == w.top:
		return place, api.OK
	case piece == "..":
		return up, api.OK
	}
	node, why := w.Lookup(place, piece)
	if why != api.OK {
		return 0, api.ErrNone
	}
	if target, why := w.Readlink(node); on && why == api.OK {
		return w.hop(place, target)
	}
	return node, api.OK
}

// hop is where the target of a symbolic link leads from the directory in which the link lies.
func (w *follower) hop(dir int, target string) (int, api.Errno) {
	if w.hops == api.MaxHops {
		return 0, api.ErrHops
	}
	w.hops++
	return w.through(dir, target, true)
}
