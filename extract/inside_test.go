package extract

import (
	"slices"
	"testing"

	"satchel/api"
	"satchel/quota"
	"satchel/vfs"
	"satchel/writer"
)

// What no caller of Extract can see is looked at here: what directories are in between, and what would become of their metas, if something else took them away ahead of the end.

// begun is the work of an archive with three directories, brought out and not yet settled: "d" (2), "d/e" (3), "d" again, "f" (4).
func begun(t *testing.T, p api.Policy) *work {
	t.Helper()
	var l []api.Packed
	for i, name := range []string{"d", "d/e", "d", "f"} {
		l = append(l, api.Packed{Entry: api.Entry{Name: name, Kind: api.Dir, Meta: api.Meta{Mode: uint32(0o4021 + i), Uid: 7}}})
	}
	b, why := writer.Write(l, api.Style{Form: api.Ustar})
	f, _ := vfs.New(9, 9)
	m, _ := quota.New(api.Quota{Entries: 4, Depth: 2})
	w := &work{archive: b, fs: f, top: 1, policy: p, meter: m}
	w.bringOutAll()
	if why != api.OK || w.report != (api.Report{Done: 4, Place: 2048}) {
		t.Fatal(why, w.report)
	}
	return w
}

func modeOf(f *vfs.FS, node int) uint32 {
	is, _ := f.Stat(node)
	return is.Meta.Mode
}

// P20.2: a directory as it is applied: 448 is added behind what the mask takes.
func TestOpened(t *testing.T) {
	for _, x := range []struct{ mask, d, e, f uint32 }{
		{0, 0o4723, 0o4722, 0o4724},
		{0o22, 0o4701, 0o4700, 0o4704},
		{0o777, 0o4700, 0o4700, 0o4700},
		{0o4000, 0o723, 0o722, 0o724},
		{1<<32 - 1, 0o700, 0o700, 0o700},
	} {
		w := begun(t, api.Policy{Mask: x.mask})
		for node, want := range map[int]uint32{2: x.d, 3: x.e, 4: x.f} {
			if got := modeOf(w.fs, node); got != want {
				t.Errorf("%o: %d has %o, not %o", x.mask, node, got, want)
			}
		}
		w.settle()
		for node, want := range map[int]uint32{2: 0o4023 &^ x.mask, 3: 0o4022 &^ x.mask, 4: 0o4024 &^ x.mask} {
			if got := modeOf(w.fs, node); got != want {
				t.Errorf("%o: %d has %o at the end, not %o", x.mask, node, got, want)
			}
		}
	}
}

// P20.2: of all other kinds, and in all other things, the entry and the policy are as they are.
func TestOpenedOthers(t *testing.T) {
	p := api.Policy{There: api.Skip, Parents: true, Mask: 0o7777, Leaving: true}
	for kind := range 7 {
		e := api.Entry{Name: "x", Kind: kind, Meta: api.Meta{Mode: 0o5, Uid: 1, Gid: 2, Time: 3, Nano: 4}, User: "u", Group: "g", Link: "l", Size: 5, Type: 'x'}
		want, by := e, p
		if kind == api.Dir {
			want.Meta.Mode, by.Mask = 0o700, 0
		}
		if got, p := opened(e, p); got != want || p != by {
			t.Errorf("%+v by %+v", got, p)
		}
	}
}

// P20.4: directories that are taken away by then, or whose name leads elsewhere, are left alone; the others are not.
func TestSettleElsewhere(t *testing.T) {
	for what, x := range map[string]struct {
		change func(f *vfs.FS) []api.Errno
		metas  []int
	}{
		"nothing": {func(f *vfs.FS) []api.Errno { return nil }, []int{4, 2, 3}},
		"taken away": {func(f *vfs.FS) []api.Errno {
			return []api.Errno{f.Rmdir(2, "e"), f.Rmdir(1, "f")}
		}, []int{2}},
		"all taken away": {func(f *vfs.FS) []api.Errno {
			return []api.Errno{f.Rmdir(2, "e"), f.Rmdir(1, "d"), f.Rmdir(1, "f")}
		}, nil},
		"another directory": {func(f *vfs.FS) []api.Errno {
			_, why := f.Mkdir(2, "e", api.Meta{Mode: 1})
			return []api.Errno{why}
		}, []int{4, 2}},
		"a file": {func(f *vfs.FS) []api.Errno {
			_, why := f.Create(2, "e", api.Meta{Mode: 1})
			return []api.Errno{why}
		}, []int{4, 2}},
		"a link to it": {func(f *vfs.FS) []api.Errno {
			a := f.Rename(1, "f", 1, "g")
			_, b := f.Symlink(1, "f", "g", api.Meta{Mode: 1})
			return []api.Errno{a, b}
		}, []int{2, 3}},
		"a link on the way": {func(f *vfs.FS) []api.Errno {
			a := f.Rename(1, "d", 1, "x")
			_, b := f.Symlink(1, "d", "x", api.Meta{Mode: 1})
			return []api.Errno{a, b}
		}, []int{4}},
		"changed places": {func(f *vfs.FS) []api.Errno {
			return []api.Errno{f.Rename(1, "d", 1, "x"), f.Rename(1, "f", 1, "d"), f.Rename(1, "x", 1, "f")}
		}, nil},
		"one in the other": {func(f *vfs.FS) []api.Errno {
			return []api.Errno{f.Rename(2, "e", 1, "e"), f.Rename(1, "d", 3, "d"), f.Rename(1, "e", 1, "d"), f.Rename(3, "d", 3, "e")}
		}, []int{4}},
		"away and back": {func(f *vfs.FS) []api.Errno {
			return []api.Errno{f.Rename(1, "d", 4, "d"), f.Rename(4, "d", 1, "d")}
		}, []int{4, 2, 3}},
	} {
		w := begun(t, api.Policy{})
		if what == "another directory" || what == "a file" {
			w.fs.Rmdir(2, "e")
		}
		for _, why := range x.change(w.fs) {
			if why != api.OK {
				t.Fatal(what, why)
			}
		}
		before := w.fs.Image()
		w.fs.Forget()
		w.settle()
		var metas []int
		for _, act := range w.fs.Trace() {
			if act.Op != api.OpMeta {
				t.Errorf("%s: %+v", what, act)
			}
			metas = append(metas, act.Node)
		}
		if !slices.Equal(metas, x.metas) {
			t.Errorf("%s: of %d the metas were changed, not of %d", what, metas, x.metas)
		}
		for _, n := range before.List {
			want := n.Meta.Mode
			if slices.Contains(x.metas, n.Number) {
				want = []uint32{0o4023, 0o4022, 0o4024}[n.Number-2]
			}
			if got := modeOf(w.fs, n.Number); got != want {
				t.Errorf("%s: %d has %o, not %o", what, n.Number, got, want)
			}
		}
	}
}

// P20.4: a later Dir of the same inode counts, even if its name leads there no more.
func TestSettleLater(t *testing.T) {
	w := begun(t, api.Policy{})
	w.dirs = append(w.dirs, directory{"none", 3, api.Meta{Mode: 1}}, directory{"f/none", 4, api.Meta{Mode: 1}})
	w.fs.Forget()
	w.settle()
	if acts := w.fs.Trace(); len(acts) != 1 || acts[0].Node != 2 || modeOf(w.fs, 2) != 0o4023 || modeOf(w.fs, 3) != 0o4722 {
		t.Error(acts, w.fs.Image())
	}
}
