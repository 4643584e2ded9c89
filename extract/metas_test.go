package extract_test

import (
	"fmt"
	"slices"
	"strings"
	"testing"

	"satchel/api"
	"satchel/vfs"
)

// changed are the inodes whose meta calls of the trace changed, in their order.
func changed(acts []api.Act) []int {
	var nodes []int
	for _, x := range acts {
		if x.Op == api.OpMeta {
			nodes = append(nodes, x.Node)
		}
	}
	return nodes
}

// P20.4: Dirs whose Mode lacks bits of 448 or not, with masks that take such or not: the meta at the end is the entry's, less the mask's bits, and what lies in them was brought out.
func TestModes(t *testing.T) {
	for _, mode := range []int64{0, 0o7, 0o77, 0o100, 0o200, 0o400, 0o300, 0o500, 0o555, 0o600, 0o700, 0o750, 0o755, 0o1777, 0o7000, 0o7777} {
		for _, mask := range []uint32{0, 0o22, 0o77, 0o100, 0o200, 0o400, 0o700, 0o777, 0o7000, 0o7777, 1 << 12, 1<<32 - 1} {
			for _, ahead := range []bool{false, true} {
				h := newHeld(t, 9, 99)
				if ahead {
					h.f.Mkdir(1, "d", api.Meta{Mode: 0o4321, Uid: 9, Nano: 9})
				}
				b := pairs('x', "uid", "70000", "gid", "3000000000", "mtime", "-1.25") + dir("d", mode)
				h.comes(b+dir("d/e", mode)+file("d/e/f", "abc")+end, 1, by(api.Policy{Mask: mask}), api.Report{Done: 3, Bytes: 3, Place: len(b) + 1536})
				want := api.Meta{Mode: uint32(mode) &^ mask, Uid: 70000, Gid: 3000000000, Time: -2, Nano: 750000000}
				if got := metaAt(h.f, "d"); got != want {
					t.Errorf("%o %o: %+v, not %+v", mode, mask, got, want)
				}
				if got := metaAt(h.f, "d/e"); got != (api.Meta{Mode: uint32(mode) &^ mask}) {
					t.Errorf("%o %o: %+v", mode, mask, got)
				}
				if bytesAt(h.f, "d/e/f") != "abc" {
					t.Error(names(h.f, 1))
				}
			}
		}
	}
}

// P20.4: the last one first, and so on back to the first one: each once, whether its meta is another one by then or not.
func TestLastFirst(t *testing.T) {
	h := newHeld(t, 9, 99)
	b := dir("a", 0) + dir("a/b", 0o700) + file("a/b/f", "") + dir("c", 0o755) + dir("a/d", 0o7)
	h.comes(b+end, 1, by(api.Policy{}), api.Report{Done: 5, Place: 2560})
	if got := changed(h.f.Trace()); !slices.Equal(got, []int{6, 5, 3, 2}) {
		t.Error(got)
	}
	for name, mode := range map[string]uint32{"a": 0, "a/b": 0o700, "c": 0o755, "a/d": 0o7} {
		if metaAt(h.f, name) != (api.Meta{Mode: mode}) {
			t.Error(name, metaAt(h.f, name))
		}
	}
}

// P20.4: Dirs brought out twice or more, under all forms of a name: the last one's meta, once.
func TestDirsTwice(t *testing.T) {
	for there := range 2 {
		h := newHeld(t, 9, 99)
		b := dir("d", 0o1) + dir("./d", 0o2) + dir("e", 0o3) + dir("d/", 0o4) + dir(".//d//", 0o5) + dir("e", 0o6)
		h.comes(b+end, 1, by(api.Policy{There: []int{api.Keep, api.Replace}[there], Mask: 0o4}), api.Report{Done: 6, Place: 3072})
		if metaAt(h.f, "d").Mode != 0o1 || metaAt(h.f, "e").Mode != 0o2 {
			t.Error(metaAt(h.f, "d"), metaAt(h.f, "e"))
		}
		// Four times as they are applied again, and then both at the end.
		if got := changed(h.f.Trace()); !slices.Equal(got, []int{2, 2, 2, 3, 3, 2}) {
			t.Error(got)
		}
	}
	// With Skip the first one alone is brought out, and keeps its meta.
	h := newHeld(t, 9, 99)
	h.comes(dir("d", 0o1)+dir("d", 0o2)+file("d/f", "x")+dir("d", 0o3)+end, 1, by(api.Policy{There: api.Skip}), api.Report{Done: 2, Skipped: 2, Bytes: 1, Place: 2560})
	if metaAt(h.f, "d").Mode != 0o1 || !slices.Equal(changed(h.f.Trace()), []int{2}) {
		t.Error(metaAt(h.f, "d"), h.f.Trace())
	}
}

// P20.4: Dirs that are there already: with Keep and Replace they are brought out, with Skip they are left out, and keep their meta.
func TestDirsThere(t *testing.T) {
	for _, there := range ways {
		h := held{t, grown(t, "d/", "d/e/", "f")}
		old := metaAt(h.f, "d")
		h.f.Forget()
		want := api.Report{Done: 2, Place: 1024}
		metas := []int{2, 2}
		mode := api.Meta{Mode: 0o50}
		if there == api.Skip {
			want.Done, want.Skipped = 1, 1
			metas, mode = nil, old
		}
		h.comes(dir("d", 0o50)+symlink("d/s", "e")+end, 1, by(api.Policy{There: there}), want)
		if metaAt(h.f, "d") != mode || !slices.Equal(changed(h.f.Trace()), metas) {
			t.Errorf("%d: %+v %+v", there, metaAt(h.f, "d"), h.f.Trace())
		}
	}
	// Directories that are no entry's keep their meta, whatever goes into them.
	h := held{t, grown(t, "d/", "d/e/")}
	old := []api.Meta{metaAt(h.f, "d"), metaAt(h.f, "d/e")}
	h.comes(dir("d/e/x", 0)+file("d/e/x/f", "x")+end, 1, by(api.Policy{}), api.Report{Done: 2, Bytes: 1, Place: 1536})
	if metaAt(h.f, "d") != old[0] || metaAt(h.f, "d/e") != old[1] {
		t.Error(brief(h.f.Image()))
	}
}

// P20.4: Dirs that replace something, and Dirs that something would replace; what Parents made, brought out later.
func TestDirsReplaced(t *testing.T) {
	replace := by(api.Policy{There: api.Replace})
	for _, ahead := range []string{file("x", "x"), symlink("x", "d"), hard("x", "f")} {
		h := held{t, example(t)}
		h.comes(ahead+dir("x", 0o111)+file("x/f", "")+dir("x", 0o222)+end, 1, replace,
			api.Report{Done: 4, Bytes: sizeOf(ahead), Place: len(ahead) + 1536})
		if metaAt(h.f, "x").Mode != 0o222 || bytesAt(h.f, "x/f") != "" {
			t.Error(brief(h.f.Image()))
		}
	}
	for _, behind := range []string{file("x", "x"), symlink("x", "d"), hard("x", "f")} {
		for _, there := range []int{api.Keep, api.Replace} {
			h := held{t, example(t)}
			h.comes(dir("x", 0o111)+behind+end, 1, by(api.Policy{There: there}), api.Report{Done: 1, Place: 512, Name: "x", Cause: api.ErrThere})
			if metaAt(h.f, "x").Mode != 0o111 {
				t.Error(metaAt(h.f, "x"))
			}
		}
		h := held{t, example(t)}
		h.comes(dir("x", 0o111)+behind+end, 1, by(api.Policy{There: api.Skip}), api.Report{Done: 1, Skipped: 1, Place: 512 + len(behind)})
		if metaAt(h.f, "x").Mode != 0o111 {
			t.Error(metaAt(h.f, "x"))
		}
	}
	h := newHeld(t, 9, 99)
	h.comes(file("a/b/f", "")+dir("a/b", 0o40)+file("a/b/g", "")+end, 1, by(api.Policy{Parents: true}), api.Report{Done: 3, Place: 1536})
	if metaAt(h.f, "a").Mode != 0o755 || metaAt(h.f, "a/b").Mode != 0o40 {
		t.Error(brief(h.f.Image()))
	}
}

// sizeOf is how many bytes an archive of one entry brings out: a file's one, or none.
func sizeOf(b string) int64 { return int64(len(b)/512 - 1) }

// P20.4: whatever ends it, the Dirs ahead have their own metas; a Dir that was refused has none, and one behind it neither.
func TestMetasOnEveryError(t *testing.T) {
	t.Parallel()
	small := plenty
	small.Bytes, small.Entries, small.Depth = 5, 5, 2
	for what, bad := range map[string]string{
		"cut":             file("f", "x")[:900],
		"not an archive":  strings.Repeat("?", 512),
		"nothing behind":  long('L', "x") + zeroRecord,
		"entries":         dir("b", 0o1) + dir("c", 0o1),
		"name":            dir("../d", 0o1),
		"depth":           dir("d/e/f", 0o1),
		"bytes":           file("f", "123456"),
		"contents":        oldHoles("f", tooGreat, nil, ""),
		"kind":            device("d"),
		"target":          symlink("x", ""),
		"leads out":       symlink("x", ".."),
		"link":            hard("x", ".."),
		"none":            dir("x/y", 0o1),
		"in the way":      dir("s/y", 0o1),
		"no directory":    dir("d/g/x", 0o1),
		"there":           dir("s", 0o1),
		"no file":         hard("x", "d/e"),
		"no room":         dir("n", 0o1) + file("f", "xyz"),
		"no more of them": file("n", "") + dir("d/n", 0o1) + dir("m", 0o1),
	} {
		ahead := dir("d", 0o70) + dir("d/e", 0o5) + file("d/g", "no") + dir("d", 0o60)
		f := room(t, grown(t, "s -> /", "q/"), 4, 3)
		q := small
		if what == "no room" || what == "no more of them" {
			q = plenty
		}
		if what == "contents" {
			q.Bytes = tooGreat + 2
		}
		h := held{t, f}
		got, _ := h.extract(ahead+bad+dir("q", 0o1)+end, 1, api.Extraction{Policy: api.Policy{Mask: 0o20}, Quota: q})
		if got.Cause == api.OK || got.Done < 4 {
			t.Errorf("%s: %+v", what, got)
		}
		for name, mode := range map[string]uint32{"d": 0o40, "d/e": 0o5, "q": 1} {
			if metaAt(f, name).Mode != mode {
				t.Errorf("%s: %s has %+v", what, name, metaAt(f, name))
			}
		}
	}
}

// P20.4: a top that is not the root: names are those from top on; top's own meta is nobody's.
func TestMetasInTop(t *testing.T) {
	h := held{t, grown(t, "t/", "d/", "t/d/")}
	top, other := metaAt(h.f, "t"), metaAt(h.f, "d")
	h.comes(dir("d", 0o11)+dir("d/d", 0o12)+dir("e", 0o13)+end, 2, by(api.Policy{}), api.Report{Done: 3, Place: 1536})
	if metaAt(h.f, "t") != top || metaAt(h.f, "d") != other {
		t.Error(brief(h.f.Image()))
	}
	for name, mode := range map[string]uint32{"t/d": 0o11, "t/d/d": 0o12, "t/e": 0o13} {
		if metaAt(h.f, name) != (api.Meta{Mode: mode}) {
			t.Error(name, metaAt(h.f, name))
		}
	}
	h.comes(dir(".", 0o1)+end, 2, by(api.Policy{}), api.Report{Name: ".", Cause: api.ErrEmpty})
}

// P20.4: many Dirs, each many times, deep in one another.
func TestManyDirs(t *testing.T) {
	b, name := "", ""
	var order []string
	for i := range 60 {
		name += "d"
		order = append(order, name)
		b += long('L', name) + dir("x", int64(i))
		name += "/"
	}
	b = strings.Repeat(b, 3)
	f, _ := vfs.New(100, 0)
	h := held{t, f}
	h.comes(b+end, 1, by(api.Policy{}), api.Report{Done: 180, Place: len(b)})
	for i, name := range order {
		if metaAt(f, name).Mode != uint32(i) {
			t.Error(name, metaAt(f, name))
		}
	}
	metas := changed(f.Trace())
	if len(metas) != 180 || fmt.Sprint(metas[120:123]) != "[61 60 59]" || metas[179] != 2 {
		t.Error(metas)
	}
}
