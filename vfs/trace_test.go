package vfs_test

import (
	"slices"
	"testing"

	"satchel/api"
	"satchel/vfs"
)

// P10.9: the Act of each mutating call, and nothing of those that were refused or change nothing by their nature.
func TestTraceOfEach(t *testing.T) {
	f, _ := vfs.New(9, 9)
	m := api.Meta{Mode: 7, Uid: 8, Gid: 9, Time: 10, Nano: 11}
	if len(f.Trace()) != 0 {
		t.Error("New is traced")
	}
	f.Mkdir(1, "d", m)
	f.Create(2, "f", m)
	f.Symlink(1, "s", "target", m)
	f.Link(1, "h", 3)
	f.Write(3, 2, []byte("abc"))
	f.Resize(3, 4)
	f.Change(4, m)
	f.Rename(1, "h", 2, "i")
	f.Unlink(1, "s")
	f.Mkdir(2, "e", m)
	f.Rmdir(2, "e")
	f.Rename(2, "i", 2, "f")
	want := []api.Act{
		{Op: api.OpMkdir, Dir: 1, Name: "d", Node: 2},
		{Op: api.OpCreate, Dir: 2, Name: "f", Node: 3},
		{Op: api.OpSymlink, Dir: 1, Name: "s", Node: 4},
		{Op: api.OpLink, Dir: 1, Name: "h", Node: 3},
		{Op: api.OpWrite, Node: 3, At: 2, N: 3},
		{Op: api.OpResize, Node: 3, N: 4},
		{Op: api.OpMeta, Node: 4},
		{Op: api.OpRename, Dir: 1, Name: "h", Node: 3, To: 2, Other: "i"},
		{Op: api.OpUnlink, Dir: 1, Name: "s", Node: 4},
		{Op: api.OpMkdir, Dir: 2, Name: "e", Node: 5},
		{Op: api.OpRmdir, Dir: 2, Name: "e", Node: 5},
		{Op: api.OpRename, Dir: 2, Name: "i", Node: 3, To: 2, Other: "f"},
	}
	if got := f.Trace(); !slices.Equal(got, want) {
		t.Errorf("%+v", got)
	}
	for _, what := range []string{lookup, up, list, stat, read, readlink} {
		call{what: what, dir: 1, name: "d", node: 3, n: 9}.do(f)
	}
	f.Image()
	f.Free()
	f.Clone()
	vfs.Alike(f, 1, f, 1)
	for what := range ops { // refused, each of them
		if why := (call{what: what, dir: 1, name: "..", to: 1, other: "y", node: 1, n: -1, at: -1, target: "t", meta: bad}).do(f).why; why == api.OK {
			t.Errorf("%s is done", what)
		}
	}
	if got := f.Trace(); !slices.Equal(got, want) {
		t.Errorf("%+v", got)
	}
}

// P10.9: calls that are done and change nothing are traced, too.
func TestTraceOfNothing(t *testing.T) {
	b := grown(t, 20, 10)
	b.f.Forget()
	b.m.trace = nil
	before := b.f.Image()
	b.ok(call{what: write, node: 3, at: 9})
	b.ok(call{what: write, node: 3, data: "abcd"})
	b.ok(call{what: resize, node: 3, n: 4})
	b.ok(call{what: change, node: 2, meta: b.m.inode(2).Meta})
	b.ok(call{what: rename, dir: 1, name: "f", to: 1, other: "h"})
	want := []api.Act{
		{Op: api.OpWrite, Node: 3, At: 9},
		{Op: api.OpWrite, Node: 3, N: 4},
		{Op: api.OpResize, Node: 3, N: 4},
		{Op: api.OpMeta, Node: 2},
		{Op: api.OpRename, Dir: 1, Name: "f", Node: 3, To: 1, Other: "h"},
	}
	if got := b.f.Trace(); !slices.Equal(got, want) || !sameImage(b.f.Image(), before) {
		t.Errorf("%+v", got)
	}
}

// P10.9, P10.1: behind Forget, Load and Clone the trace is empty, and begins anew; Clone leaves the first one's as it is.
func TestTraceForgotten(t *testing.T) {
	b := grown(t, 20, 10)
	long := len(b.f.Trace())
	g := b.f.Clone()
	h, _ := vfs.Load(b.f.Image())
	if long == 0 || len(g.Trace()) != 0 || len(h.Trace()) != 0 || len(b.f.Trace()) != long {
		t.Error(long, len(g.Trace()), len(h.Trace()), len(b.f.Trace()))
	}
	one := []api.Act{{Op: api.OpMkdir, Dir: 1, Name: "x", Node: 9}}
	b.f.Forget()
	if len(b.f.Trace()) != 0 {
		t.Error("not forgotten")
	}
	b.f.Forget()
	for _, x := range []*vfs.FS{b.f, g, h} {
		x.Mkdir(1, "x", api.Meta{})
		if got := x.Trace(); !slices.Equal(got, one) {
			t.Errorf("%+v", got)
		}
	}
	b.f.Forget()
	if len(b.f.Trace()) != 0 || len(g.Trace()) != 1 {
		t.Error("forgotten elsewhere, or not here")
	}
}

// P10.1: neither of two clones knows of the other one.
func TestClone(t *testing.T) {
	b := grown(t, 20, 20)
	before := b.f.Image()
	c := both{t, b.f.Clone(), &model{Image: copied(before)}}
	d := both{t, b.f.Clone(), &model{Image: copied(before)}}
	c.all()
	steps := []call{
		{what: write, node: 3, at: 1, data: "XYZ"},
		{what: write, node: 3, at: 9, data: "XYZ"},
		{what: resize, node: 7, n: 2},
		{what: change, node: 6, meta: api.Meta{Mode: 1}},
		{what: mkdir, dir: 8, name: "x"},
		{what: create, dir: 1, name: "x"},
		{what: unlink, dir: 1, name: "f"},
		{what: unlink, dir: 1, name: "h"},
		{what: unlink, dir: 1, name: "s"},
		{what: rename, dir: 1, name: "a", to: 5, other: "a"},
		{what: rmdir, dir: 8, name: "x"},
	}
	for _, x := range steps {
		c.ok(x)
		b.held(x)
	}
	for _, x := range steps {
		b.ok(x)
		d.held(x)
	}
	if !sameImage(b.f.Image(), c.f.Image()) || !sameImage(d.f.Image(), before) {
		t.Error("clones that went the same way are not the same")
	}
}

// again makes the calls of a trace, with nothing but what the trace, the bytes, the targets and the metas tell.
func again(t *testing.T, f *vfs.FS, trace []api.Act, done []call) {
	t.Helper()
	whats := make(map[int]string)
	for what, op := range ops {
		whats[op] = what
	}
	for i, x := range trace {
		c := call{
			what: whats[x.Op], dir: x.Dir, name: x.Name, node: x.Node, to: x.To, other: x.Other, at: x.At, n: x.N,
			data: done[i].data, target: done[i].target, meta: done[i].meta,
		}
		a := c.do(f)
		if a.why != api.OK || c.isOf(mkdir, create, symlink) && a.node != x.Node {
			t.Fatalf("%s, done again: %s", brief(c), brief(a))
		}
	}
}
