package extract

import (
	"slices"

	"satchel/api"
	"satchel/apply"
	"satchel/path"
	"satchel/quota"
	"satchel/reader"
	"satchel/vfs"
	"satchel/walk"
)

// open is the bits of a directory's mode without which its owner could bring nothing out into it.
const open = 0o700

// work is an archive on its way out.
type work struct {
	archive []byte
	fs      *vfs.FS
	top     int
	policy  api.Policy
	meter   *quota.Meter
	dirs    []directory
	report  api.Report
}

// directory is one that was brought out, and the meta that it is to have once nothing more goes into it.
type directory struct {
	name string
	node int
	meta api.Meta
}

// bringOutAll brings entries out, up to the archive's end or to what can't be read or is refused.
func (w *work) bringOutAll() {
	r := reader.New(w.archive)
	for {
		x, there, why := r.Next()
		if !there {
			w.report.Place, w.report.Cause = r.At(), why
			return
		}
		if why = w.bringOut(x); why != api.OK {
			w.report.Place, w.report.Name, w.report.Cause = x.From, x.Entry.Name, why
			return
		}
	}
}

// bringOut brings an entry out. What is wrong with it by itself is found by Apply, ahead of all else.
func (w *work) bringOut(x api.Item) api.Errno {
	if why := w.meter.Take(x.Entry); why != api.OK {
		return why
	}
	data, why := w.content(x)
	if why != api.OK {
		return why
	}
	e, p := opened(x.Entry, w.policy)
	done, why := apply.Apply(w.fs, w.top, e, data, p)
	if why != api.OK {
		return why
	}
	w.count(x.Entry, done)
	return api.OK
}

// content is a file's bytes; anything else has none.
func (w *work) content(x api.Item) ([]byte, api.Errno) {
	if x.Entry.Kind != api.File {
		return nil, api.OK
	}
	return reader.Content(w.archive, x)
}

// opened is an entry as it is applied, and by which policy: the mask is taken out of a directory's mode first, so that it takes none of the bits away that are added.
func opened(e api.Entry, p api.Policy) (api.Entry, api.Policy) {
	if e.Kind == api.Dir {
		e.Meta.Mode = e.Meta.Mode&^p.Mask | open
		p.Mask = 0
	}
	return e, p
}

// count takes down what an entry came to.
func (w *work) count(e api.Entry, done api.Done) {
	if done.Skipped {
		w.report.Skipped++
		return
	}
	w.report.Done++
	switch e.Kind {
	case api.File:
		w.report.Bytes += e.Size
	case api.Dir:
		e.Meta.Mode &^= w.policy.Mask
		w.dirs = append(w.dirs, directory{e.Name, done.Node, e.Meta})
	}
}

// settle gives the directories that were brought out their own metas, what came last first; of several that are one inode the last one's holds.
func (w *work) settle() {
	later := make(map[int]struct{})
	for _, d := range slices.Backward(w.dirs) {
		_, again := later[d.node]
		later[d.node] = struct{}{}
		if !again && w.isFound(d) {
			w.fs.Change(d.node, d.meta)
		}
	}
}

// isFound tells whether a directory's name leads to it still.
func (w *work) isFound(d directory) bool {
	parts, _ := path.Split(d.name) // it was brought out under that name
	node, _, why := walk.Find(w.fs, w.top, parts)
	return why == api.OK && node == d.node
}
