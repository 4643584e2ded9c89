package vfs_test

import (
	"slices"
	"testing"

	"satchel/api"
	"satchel/vfs"
)

func sortNodes(list []api.Node) {
	slices.SortFunc(list, func(a, b api.Node) int { return a.Number - b.Number })
}

// spare is a list with room behind it, and whether it and the room are as they were.
func spare[T comparable](list []T, mark T) ([]T, func() bool) {
	with := make([]T, len(list), len(list)+5)
	copy(with, list)
	behind := with[len(list):cap(with)]
	for i := range behind {
		behind[i] = mark
	}
	return with, func() bool {
		return slices.Equal(with, list) && !slices.ContainsFunc(behind, func(x T) bool { return x != mark })
	}
}

// spoil writes over a list, its room included.
func spoil[T any](list []T, with T) {
	list = list[:cap(list)]
	for i := range list {
		list[i] = with
	}
}

// spoilImage writes over all lists of an image, their room included.
func spoilImage(x api.Image) {
	for _, n := range x.List[:cap(x.List)] {
		spoil(n.Data, 'S')
		spoil(n.Entries, api.Named{Name: "spoilt", Node: 77})
	}
	spoil(x.List, api.Node{Number: 77, Kind: 9, Target: "spoilt"})
}

// Memory: an image that is handed in is not changed, and not kept.
func TestMemoryOfLoad(t *testing.T) {
	x := full()
	var checks []func() bool
	for i := range x.List {
		var data, entries func() bool
		x.List[i].Data, data = spare(x.List[i].Data, 'S')
		x.List[i].Entries, entries = spare(x.List[i].Entries, api.Named{Name: "spare"})
		checks = append(checks, data, entries)
	}
	unchanged := func(when string) {
		t.Helper()
		for i, is := range checks {
			if !is() {
				t.Errorf("%s the list %d is changed", when, i)
			}
		}
		if !sameImage(x, full()) {
			t.Errorf("%s the image is changed", when)
		}
	}
	vfs.Valid(x)
	unchanged("behind Valid")
	b := loaded(t, x)
	unchanged("behind Load")
	for _, c := range []call{
		{what: write, node: 4, data: "WXYZ"}, {what: write, node: 12, at: 1, data: "V"}, {what: resize, node: 4, n: 2},
		{what: resize, node: 4, n: 4}, {what: mkdir, dir: 1, name: "x"}, {what: unlink, dir: 3, name: "h"},
		{what: rename, dir: 3, name: "b", to: 9, other: "b"}, {what: change, node: 1},
	} {
		b.ok(c)
		unchanged(c.what)
	}
	b = loaded(t, x)
	spoilImage(x)
	b.all()
}

// Memory: the bytes that are handed to Write are not changed, and not kept, their room included.
func TestMemoryOfWrite(t *testing.T) {
	for _, n := range []int{0, 1, 5, 64, 1000} {
		b := file(t, 5000, "")
		data := slices.Repeat([]byte("d"), n)
		in, unchanged := spare(data, 'S')
		for i, at := range []int{0, n, 3 * n, n / 2} {
			if why := b.f.Write(2, at, in); why != api.OK || !unchanged() {
				t.Error(i, why, unchanged())
			}
			b.m.do(call{what: write, node: 2, at: at, data: string(data)})
		}
		b.f.Write(2, 4*n, []byte("more"))
		b.m.do(call{what: write, node: 2, at: 4 * n, data: "more"})
		if !unchanged() {
			t.Error("a later Write changes what was handed in")
		}
		spoil(in, 'x')
		b.held(call{what: write})
	}
}

// Memory: what is done to an answer is seen neither in the file system nor in another answer.
func TestMemoryOfAnswers(t *testing.T) {
	b := grown(t, 20, 10)
	for range 3 {
		for node := 1; node <= 8; node++ {
			for _, n := range []int{0, 2, 4, 99} {
				for at := range 5 {
					data, _ := b.f.Read(node, at, n)
					spoil(data, 'S')
				}
			}
			l, _ := b.f.List(node)
			spoil(l, api.Named{Name: "spoilt", Node: 77})
		}
		spoil(b.f.Trace(), api.Act{Op: 77})
		spoilImage(b.f.Image())
		b.all()
	}
	x, y := b.f.Image(), b.f.Image()
	for i := range x.List { // nor in another list of the same answer
		want := copied(x)
		spoil(x.List[i].Data, 'S')
		spoil(x.List[i].Entries, api.Named{Name: "spoilt"})
		want.List[i].Data, want.List[i].Entries = x.List[i].Data, x.List[i].Entries
		if !sameImage(x, want) {
			t.Errorf("lists of %d are shared", x.List[i].Number)
		}
	}
	if !sameImage(y, b.m.Image) {
		t.Error("two images share something")
	}
}

// Memory: what was answered is not changed by what is done later.
func TestMemoryOfLater(t *testing.T) {
	b := grown(t, 30, 100)
	data, _ := b.f.Read(3, 1, 2)
	l, _ := b.f.List(1)
	trace := b.f.Trace()
	x := b.f.Image()
	wantTrace, wantImage := slices.Clone(b.m.trace), copied(b.m.Image)
	for _, c := range []call{
		{what: write, node: 3, data: "WXYZ"},
		{what: write, node: 3, at: 4, data: "more and more and more"},
		{what: resize, node: 3, n: 1},
		{what: write, node: 3, at: 1, data: "UVWXYZ"},
		{what: mkdir, dir: 1, name: "b"},
		{what: unlink, dir: 1, name: "f"},
		{what: rename, dir: 1, name: "e", to: 1, other: "z"},
		{what: change, node: 1, meta: api.Meta{Mode: 5}},
		{what: rename, dir: 2, name: "b", to: 1, other: "b"},
	} {
		b.ok(c)
	}
	b.f.Forget()
	b.f.Mkdir(1, "new", api.Meta{})
	if string(data) != "bc" || told(l) != `"a" 2 "e" 5 "f" 3 "h" 3 "s" 4 ` || !slices.Equal(trace, wantTrace) || !sameImage(x, wantImage) {
		t.Errorf("%q %v", data, l)
	}
}

// Memory: an answer's room behind its end is its own, too.
func TestMemoryOfRoom(t *testing.T) {
	b := file(t, 100, "abcdefgh")
	one, _ := b.f.Read(2, 0, 3)
	one = append(one, "XXXX"...)
	two, _ := b.f.Read(2, 3, 3)
	two = append(two, "YYYY"...)
	trace := append(b.f.Trace(), api.Act{Op: 77})
	b.ok(call{what: resize, node: 2, n: 7})
	if string(one) != "abcXXXX" || string(two) != "defYYYY" || b.text() != "abcdefg" || trace[len(trace)-1].Op != 77 {
		t.Errorf("%q %q %q", one, two, b.text())
	}
}
