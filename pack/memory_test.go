package pack_test

import (
	"slices"
	"testing"

	"satchel/api"
	"satchel/pack"
	"satchel/vfs"
)

// Memory: what is told is its holder's alone: neither the file system nor another part of the answer, nor a later one, knows what becomes of it.
func TestMemoryOfTree(t *testing.T) {
	for _, p := range packings() {
		h := held{t, house(t)}
		want, _ := pack.Tree(h.f, 2, p)
		h.unchanged("the answer spoilt", func() {
			list, _ := pack.Tree(h.f, 2, p)
			for i := range list {
				others := append(slices.Clone(list[:i]), list[i+1:]...)
				was := append(slices.Clone(want[:i]), want[i+1:]...)
				whole := list[i].Data[:cap(list[i].Data)]
				old := slices.Clone(whole)
				for j := range whole {
					whole[j] = '#'
				}
				if !sameList(others, was) {
					t.Errorf("%+v: with %s others were spoilt, too", p, list[i].Entry.Name)
				}
				copy(whole, old)
			}
			for i := range list {
				data := list[i].Data[:cap(list[i].Data)]
				for j := range data {
					data[j] = '#'
				}
			}
			list = list[:cap(list)]
			for i := range list {
				list[i] = api.Packed{Entry: api.Entry{Name: "spoilt"}}
			}
		})
		if again, why := pack.Tree(h.f, 2, p); !sameList(again, want) || why != api.OK {
			t.Errorf("%+v: %s %d", p, brief(again), why)
		}
	}
}

// Memory: the same of One, whose parts are neither changed nor kept.
func TestMemoryOfOne(t *testing.T) {
	for _, p := range packings() {
		h := held{t, house(t)}
		parts := []string{"d", "h", "spare", "more"}
		x, why := h.one(2, parts[:2], p)
		if !slices.Equal(parts, []string{"d", "h", "spare", "more"}) || why != api.OK {
			t.Fatal(parts, why)
		}
		h.unchanged("the answer spoilt", func() {
			whole := x.Data[:cap(x.Data)]
			for i := range whole {
				whole[i] = '#'
			}
			parts[1] = "g"
		})
		if x.Entry.Name != "d/h" {
			t.Error(brief(x))
		}
		if again, why := h.one(2, []string{"d", "h"}, p); string(again.Data) != "out/d/f" || why != api.OK {
			t.Error(brief(again), why)
		}
	}
}

// Memory: what was told stays as it is, whatever becomes of the file system.
func TestToldStays(t *testing.T) {
	for _, p := range packings() {
		f := house(t)
		list, _ := pack.Tree(f, 2, p)
		one, _ := pack.One(f, 2, []string{"d", "h"}, p)
		want, _ := modelOf(f).tree(2, p)
		first, _ := modelOf(f).one(2, []string{"d", "h"}, p)
		for _, n := range f.Image().List {
			f.Write(n.Number, 0, []byte("######"))
			f.Resize(n.Number, 3)
			f.Change(n.Number, api.Meta{Mode: 0o123})
		}
		f.Rename(2, "d", 1, "elsewhere")
		f.Unlink(2, "f")
		if !sameList(list, want) || !samePacked(one, first) {
			t.Errorf("%+v: %s", p, brief(list))
		}
	}
}

// From arguments alone: the same on a clone, on a file system of the image with other room, and again, whatever was packed in between.
func TestFromArgumentsAlone(t *testing.T) {
	f := house(t)
	image := f.Image()
	image.Nodes, image.Bytes, image.Next = len(image.List), 99, 1000
	g, why := vfs.Load(image)
	if why != api.OK {
		t.Fatal(why)
	}
	clone := f.Clone()
	f.Forget()
	for _, top := range []int{1, 2, 3, at(f, "t/d"), at(f, "f"), 99} {
		sameTree(t, f, top, clone, top)
		sameTree(t, example(t), 1, example(t), 1)
		sameTree(t, f, top, g, top)
	}
}

// First error: with an error all else is zero, and nil.
func TestZeroWithError(t *testing.T) {
	f := house(t)
	for _, p := range packings() {
		for _, top := range []int{99, at(f, "f"), at(f, "s")} {
			list, why := pack.Tree(f, top, p)
			n, size, other := pack.Sizes(f, top, p)
			if list != nil || n != 0 || size != 0 || why == api.OK || other != why {
				t.Error(list, why, n, size, other)
			}
		}
		if x, why := pack.One(f, 2, []string{"f", "x"}, p); x.Data != nil || x.Entry != (api.Entry{}) || why != api.ErrNotDir {
			t.Error(brief(x), why)
		}
	}
}
