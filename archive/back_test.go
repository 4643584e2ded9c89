package archive_test

import (
	"bytes"
	"math/rand"
	"slices"
	"strings"
	"testing"

	"satchel/api"
	"satchel/archive"
	"satchel/vfs"
	"satchel/walk"
)

// size is what a tree has and needs: its names, as a quota that just holds it; the inodes that it is brought out to; whether a symbolic link has several names in it.
func size(f *vfs.FS, top int) (api.Quota, int, bool) {
	var q api.Quota
	seen := make(map[int]int)
	nodes, twice := 0, false
	for _, x := range walk.All(f, top) {
		seen[x.Node]++
		q.Entries++
		q.Depth = max(q.Depth, len(x.Parts))
		if x.Kind != api.File || seen[x.Node] == 1 {
			nodes++
		}
		if x.Kind == api.File && seen[x.Node] == 1 {
			is, _ := f.Stat(x.Node)
			q.Bytes += int64(is.Size)
		}
		twice = twice || x.Kind == api.Symlink && seen[x.Node] == 2
	}
	return q, nodes, twice
}

// elsewhere is a file system with things of its own, an empty directory in it, and just as much room as is told.
func elsewhere(t *testing.T, nodes, bytes int) (held, int) {
	t.Helper()
	with := grown(t, "a/", "a/b", "into/", "s -> into", "h = a/b")
	with.Resize(at(with, "h"), 0)
	image := with.Image()
	image.Nodes, image.Bytes, image.Next = len(image.List)+nodes, bytes, 1000
	f, why := vfs.Load(image)
	if why != api.OK {
		t.Fatal(why)
	}
	return held{t, f}, at(f, "into")
}

// back is P22.6: a tree's bytes, packed with nothing left out, brought out elsewhere, with just the room and the quota that it needs. It tells whether the promise speaks of it.
func (h held) back(top int, b []byte, m api.Making) bool {
	h.t.Helper()
	q, nodes, twice := size(h.f, top)
	plain, _ := modelUnwrap(b, api.MaxBlock)
	if m.Packing != (api.Packing{}) || modelKind(b) != m.Wrap || m.Wrap != api.Plain && len(plain) > modelOuter(q) {
		return false
	}
	g, into := elsewhere(h.t, nodes, int(q.Bytes))
	report, why := g.extract(b, into, api.Extraction{Policy: api.Policy{Leaving: true}, Quota: q})
	if why != api.OK || report.Done != q.Entries || report.Bytes != q.Bytes || report.Skipped > 0 {
		h.t.Fatalf("%+v: %s came back as %+v %d", m, sketch(b), report, why)
	}
	g.f.Change(into, metaOf(h.f, top))
	if vfs.Alike(h.f, top, g.f, into) == twice {
		h.t.Fatalf("%+v: of %s there is %s", m, brief(h.f.Image()), brief(g.f.Image()))
	}
	return true
}

// lacking brings out what there is too little room or quota for, by one: it is refused, each time for its own reason.
func (h held) lacking(top int, b []byte) {
	h.t.Helper()
	q, nodes, _ := size(h.f, top)
	for _, x := range []struct {
		nodes, bytes int
		q            api.Quota
		is           bool
		want         api.Errno
	}{
		{-1, 0, api.Quota{}, nodes > 0, api.ErrNoRoom},
		{0, -1, api.Quota{}, q.Bytes > 0, api.ErrNoRoom},
		{0, 0, api.Quota{Bytes: -1}, q.Bytes > 0, api.ErrLimits},
		{0, 0, api.Quota{Entries: -1}, q.Entries > 0, api.ErrLimits},
		{0, 0, api.Quota{Depth: -1}, q.Depth > 0, api.ErrLimits},
	} {
		if !x.is {
			continue
		}
		g, into := elsewhere(h.t, nodes+x.nodes, int(q.Bytes)+x.bytes)
		less := api.Quota{Bytes: q.Bytes + x.q.Bytes, Entries: q.Entries + x.q.Entries, Depth: q.Depth + x.q.Depth}
		if report, why := g.extract(b, into, api.Extraction{Policy: api.Policy{Leaving: true}, Quota: less}); why != x.want || report.Done >= q.Entries {
			h.t.Fatalf("%s with %+v: %+v %d", sketch(b), x, report, why)
		}
	}
}

// P22.6; P5 of the whole: in every style and every wrapping, from several tops.
func TestBack(t *testing.T) {
	t.Parallel()
	h := held{t, house(t)}
	for _, top := range []int{1, 2, 3, 9, at(h.f, "t/d/e")} {
		for _, s := range styles() {
			for i, m := range wrappings() {
				m.Style = s
				b := h.mustPack(top, m)
				if !h.back(top, b, m) {
					t.Fatal("not told of")
				}
				if i%23 == 0 {
					h.lacking(top, b)
				}
			}
		}
	}
}

// P22.6: files with holes at their ends, between, everywhere and nowhere, and empty ones; of all that holes can be.
func TestBackHoles(t *testing.T) {
	t.Parallel()
	zeros := strings.Repeat("\x00", 1500)
	for _, data := range []string{"", "\x00", "a", "a\x00b", zeros, zeros + "a", "a" + zeros, zeros + "a" + zeros, "a" + zeros + "b" + zeros[:600] + "c", strings.Repeat("a"+zeros[:8], 50), strings.Repeat("\x00a", 300)} {
		h := with(t, "f", []byte(data))
		h.f.Link(1, "g", at(h.f, "f"))
		for _, form := range []int{api.GNU, api.Pax} {
			for _, holes := range []int{0, 1, 2, 8, 9, 600, 1500, 1501, api.MaxBlock, 1 << 40} {
				for _, m := range append(three(), api.Making{Wrap: api.Gzip, Way: 3}) {
					m.Style = api.Style{Form: form, Holes: holes}
					if b := h.mustPack(1, m); !h.back(1, b, m) {
						t.Fatal("not told of")
					}
				}
			}
		}
	}
}

// P22.6: names, targets and depths at their bounds, and bytes in names that mean something elsewhere.
func TestBackNames(t *testing.T) {
	t.Parallel()
	h := newHeld(t, 2000, 9999)
	dir := 1
	for range 15 {
		dir, _ = h.f.Mkdir(dir, strings.Repeat("w", 255), api.Meta{})
	}
	dir, _ = h.f.Mkdir(dir, strings.Repeat("w", 240), api.Meta{}) // 4080 bytes with the slashes
	for n := 1; n <= 15; n++ {
		node, why := h.f.Create(dir, strings.Repeat("f", n), api.Meta{Uid: uint32(n)})
		h.f.Link(1, "far"+strings.Repeat("f", n), node)
		if why != api.OK {
			t.Fatal(why)
		}
	}
	for dir, i := 1, 0; i < 256; i++ {
		dir, _ = h.f.Mkdir(dir, "d", api.Meta{Mode: 0o7})
	}
	for i, name := range []string{" ", "\n", "a\nb=c", "5 a=b\n", "\xff\xfe", "é", "@PaxHeader", "././@LongLink"[4:], "...", "-", "a ", " a", "\\", "%s", "\x01", "GNU.sparse.name"} {
		node, _ := h.f.Create(1, name, api.Meta{Mode: uint32(i), Time: int64(i)})
		h.f.Write(node, 0, []byte(name))
		h.f.Symlink(1, "link to "+name, name+"/"+name, api.Meta{})
	}
	for _, n := range []int{1, 99, 100, 101, 255, 4095, 4096} {
		h.f.Symlink(1, strings.Repeat("s", n%255+1), strings.Repeat("/", n), api.Meta{})
	}
	for _, form := range []int{api.GNU, api.Pax} {
		for _, m := range append(three(), api.Making{Wrap: api.LZ4, Shape: api.Shape{Block: 7}}, api.Making{Wrap: api.Gzip, Way: 2}) {
			m.Style.Form = form
			if b := h.mustPack(1, m); !h.back(1, b, m) {
				t.Errorf("not told of: %+v", m)
			}
		}
	}
	for form := api.V7; form <= api.Ustar; form++ {
		if _, why := h.pack(1, api.Making{Style: api.Style{Form: form}}); why != api.ErrFits {
			t.Error(why)
		}
	}
}

// P22.6: metas at their bounds.
func TestBackMetas(t *testing.T) {
	h := newHeld(t, 3000, 9)
	for i, m := range []api.Meta{
		{}, {Mode: 0o7777}, {Mode: 0o4000}, {Uid: 1<<21 - 1, Gid: 1<<21 - 1}, {Uid: 1 << 21, Gid: 1 << 21}, {Uid: 1<<32 - 1, Gid: 1<<32 - 1},
		{Time: 1<<33 - 1}, {Time: 1 << 33}, {Time: -1}, {Time: 1<<63 - 1}, {Time: -1<<63 + 1}, {Nano: 1}, {Nano: 999999999}, {Time: -1, Nano: 999999999}, {Time: -7, Nano: 100}, {Time: 1<<63 - 1, Nano: 5},
	} {
		name := string(rune('a' + i))
		d, _ := h.f.Mkdir(1, name, m)
		h.f.Create(d, "f", m)
		h.f.Symlink(d, "s", "f", m)
		h.f.Mkdir(d, "d", m)
	}
	for _, m := range three() {
		m.Style.Form = api.Pax
		if b := h.mustPack(1, m); !h.back(1, b, m) {
			t.Error("not told of")
		}
	}
}

// P22.6: a symbolic link with several names comes back as several: what is brought out then is alike the next time.
func TestBackLinksTwice(t *testing.T) {
	h := held{t, grown(t, "d/", "s -> d", "d/s = s", "d/f", "f = d/f")}
	for _, m := range three() {
		m.Style = ustar()
		b := h.mustPack(1, m)
		h.back(1, b, m) // which holds that they are not alike
		g := newHeld(t, 99, 99)
		g.comes(b, 1, leaving, api.Report{Done: 5, Bytes: 3, Place: 6 * 512}, api.OK)
		if again := g.mustPack(1, m); !bytes.Equal(again, b) {
			t.Errorf("%+v: %s, not %s", m, sketch(again), sketch(b))
		}
		g.back(1, b, m)
	}
}

// renumbered is the same file system with other numbers, and by each old number the new one. The root keeps its own.
func renumbered(t *testing.T, r *rand.Rand, f *vfs.FS) (*vfs.FS, map[int]int) {
	t.Helper()
	image := f.Image()
	numbers := map[int]int{1: 1}
	free := r.Perm(3 * len(image.List))
	for i, n := range image.List {
		if n.Number != 1 {
			numbers[n.Number] = free[i] + 2
		}
	}
	for i := range image.List {
		n := &image.List[i]
		n.Number = numbers[n.Number]
		for j := range n.Entries {
			n.Entries[j].Node = numbers[n.Entries[j].Node]
		}
	}
	slices.SortFunc(image.List, func(a, b api.Node) int { return a.Number - b.Number })
	image.Next = 3*len(image.List) + 2
	g, why := vfs.Load(image)
	if why != api.OK {
		t.Fatal(why)
	}
	return g, numbers
}

// P22.7: one directory packed twice, alike ones with other numbers, on other file systems, at other places; whatever was packed in between.
func TestOneTreeOneArchive(t *testing.T) {
	t.Parallel()
	f := house(t)
	deeper, why := vfs.New(api.MaxNodes, api.MaxBytes)
	x, _ := deeper.Mkdir(1, "x", api.Meta{})
	y, _ := deeper.Mkdir(x, "y", metaOf(f, 2))
	plain, _ := archive.Pack(f, 2, api.Making{Style: ustar()})
	if _, e := archive.Extract(plain, deeper, y, leaving); why != api.OK || e != api.OK || !vfs.Alike(f, 2, deeper, y) {
		t.Fatal(why, e)
	}
	for seed := range int64(3) {
		g, numbers := renumbered(t, rand.New(rand.NewSource(seed)), f)
		for _, s := range styles() {
			for i, m := range wrappings() {
				if i > 0 && i < 65 && i%7 != int(seed) {
					continue
				}
				m.Style = s
				want := held{t, f}.mustPack(2, m)
				held{t, f}.mustPack(1, m)
				for _, b := range [][]byte{held{t, f}.mustPack(2, m), held{t, f.Clone()}.mustPack(2, m), held{t, g}.mustPack(numbers[2], m), held{t, deeper}.mustPack(y, m)} {
					if !bytes.Equal(b, want) {
						t.Fatalf("%+v: %s, not %s", m, sketch(b), sketch(want))
					}
				}
			}
		}
	}
}

// P22.7: another tree is another archive: each thing that Alike looks at is told.
func TestOtherTreeOtherArchive(t *testing.T) {
	f := grown(t, "d/", "d/f", "h = d/f", "s -> d", "e/")
	for i, change := range []func(g *vfs.FS) api.Errno{
		func(g *vfs.FS) api.Errno { return g.Change(at(g, "d"), api.Meta{Mode: 1}) },
		func(g *vfs.FS) api.Errno { return g.Change(at(g, "h"), api.Meta{Time: 77}) },
		func(g *vfs.FS) api.Errno { return g.Change(at(g, "s"), api.Meta{Gid: 77}) },
		func(g *vfs.FS) api.Errno { return g.Write(at(g, "h"), 1, []byte("x")) },
		func(g *vfs.FS) api.Errno { return g.Resize(at(g, "h"), 4) },
		func(g *vfs.FS) api.Errno { return g.Rename(1, "e", 1, "f") },
		func(g *vfs.FS) api.Errno { return g.Rename(1, "e", at(g, "d"), "e") },
		func(g *vfs.FS) api.Errno { return g.Link(1, "i", at(g, "h")) },
		func(g *vfs.FS) api.Errno { return g.Rmdir(1, "e") },
		func(g *vfs.FS) api.Errno { return g.Unlink(1, "s") },
	} {
		g := f.Clone()
		if why := change(g); why != api.OK {
			t.Fatal(i, why)
		}
		for _, m := range three() {
			m.Style = api.Style{Form: api.Pax}
			if bytes.Equal(held{t, f}.mustPack(1, m), held{t, g}.mustPack(1, m)) {
				t.Errorf("%d, %+v", i, m)
			}
		}
	}
	// The meta of top itself is not told.
	g := f.Clone()
	g.Change(1, api.Meta{Mode: 0o7777, Uid: 9, Time: 9, Nano: 9})
	for _, m := range three() {
		m.Style = ustar()
		if !bytes.Equal(held{t, f}.mustPack(1, m), held{t, g}.mustPack(1, m)) {
			t.Errorf("%+v", m)
		}
	}
}
