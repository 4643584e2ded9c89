package extract_test

import (
	"slices"
	"testing"

	"satchel/api"
)

// P20.2, P20.3: Keep, Replace and Skip, of each kind on each kind.
func TestPolicies(t *testing.T) {
	const (
		done = iota
		left
		refused
	)
	kinds := []struct {
		of    func(name string) string
		bytes int64
	}{
		{func(name string) string { return dir(name, 0o755) }, 0},
		{func(name string) string { return file(name, "bytes") }, 5},
		{func(name string) string { return symlink(name, "d") }, 0},
		{func(name string) string { return hard(name, "g") }, 0},
	}
	// By what is there: what comes of a Dir, and of anything else.
	for there, rows := range map[int]map[string][2]int{
		api.Keep:    {"new": {done, done}, "d": {done, refused}, "s": {refused, refused}, "f": {refused, refused}},
		api.Replace: {"new": {done, done}, "d": {done, refused}, "s": {done, done}, "f": {done, done}},
		api.Skip:    {"new": {done, done}, "d": {left, left}, "s": {left, left}, "f": {left, left}},
	} {
		for name, row := range rows {
			for i, kind := range kinds {
				h := held{t, grown(t, "d/", "s -> /etc", "f", "g")}
				b := kind.of(name)
				want := api.Report{Done: 1, Bytes: kind.bytes + 1, Place: len(b) + 1024}
				switch row[min(i, 1)] {
				case done:
					want.Done++
				case left:
					want.Skipped, want.Bytes = 1, 1
				case refused:
					want = api.Report{Name: name, Cause: api.ErrThere}
				}
				h.comes(b+file("behind", "x")+end, 1, by(api.Policy{There: there}), want)
			}
		}
	}
}

// P20.2, P20.3: what is there from the archive itself is there like any other.
func TestNamesTwice(t *testing.T) {
	twice := file("a", "one") + file("a", "three") + end
	for there, want := range map[int]api.Report{
		api.Keep:    {Done: 1, Bytes: 3, Place: 1024, Name: "a", Cause: api.ErrThere},
		api.Replace: {Done: 2, Bytes: 8, Place: 2048},
		api.Skip:    {Done: 1, Skipped: 1, Bytes: 3, Place: 2048},
	} {
		h := newHeld(t, 9, 99)
		h.comes(twice, 1, by(api.Policy{There: there}), want)
		if got := bytesAt(h.f, "a"); got != map[int]string{api.Keep: "one", api.Replace: "three", api.Skip: "one"}[there] {
			t.Errorf("%d: %q", there, got)
		}
	}
}

// P20.2: missing directories are made, if the policy says so; they count nowhere, and their meta is not changed at the end.
func TestParents(t *testing.T) {
	b := file("x/y/f", "bytes") + dir("x/z", 0) + end
	h := newHeld(t, 9, 99)
	h.comes(b, 1, by(api.Policy{}), api.Report{Name: "x/y/f", Cause: api.ErrNone})
	h = newHeld(t, 9, 99)
	h.comes(b, 1, by(api.Policy{Parents: true, Mask: 0o77}), api.Report{Done: 2, Bytes: 5, Place: 1536})
	if names(h.f, 1) != " x/ x/y/ x/y/f x/z/" || metaAt(h.f, "x") != (api.Meta{Mode: 0o755}) || metaAt(h.f, "x/y") != (api.Meta{Mode: 0o755}) {
		t.Error(brief(h.f.Image()))
	}
	ops := []int{}
	for _, x := range h.f.Trace() {
		ops = append(ops, x.Op)
	}
	if !slices.Equal(ops, []int{api.OpMkdir, api.OpMkdir, api.OpCreate, api.OpWrite, api.OpMkdir, api.OpMeta}) {
		t.Error(ops)
	}
	// What Parents made ahead of a refusal stays.
	h = newHeld(t, 4, 99)
	h.comes(file("x/y/z/f", "bytes")+end, 1, by(api.Policy{Parents: true}), api.Report{Name: "x/y/z/f", Cause: api.ErrSpace})
	if names(h.f, 1) != " x/ x/y/ x/y/z/" {
		t.Error(names(h.f, 1))
	}
}

// P20.2: the mask, of files and links; of directories see the metas.
func TestMask(t *testing.T) {
	b := made(api.Header{Name: "f", Mode: 0o7777, Type: '0'}, "x") + made(api.Header{Name: "s", Mode: 0o7777, Type: '2', Link: "f"}, "") +
		made(api.Header{Name: "h", Mode: 0o7777, Type: '1', Link: "f"}, "") + end
	for _, mask := range []uint32{0, 0o22, 0o700, 0o777, 0o7777, 1 << 31, 1<<32 - 1} {
		h := newHeld(t, 9, 99)
		h.comes(b, 1, by(api.Policy{Mask: mask}), api.Report{Done: 3, Bytes: 1, Place: 2048})
		for _, name := range []string{"f", "s", "h"} {
			if got := metaAt(h.f, name).Mode; got != 0o7777&^mask {
				t.Errorf("%o: %s has %o", mask, name, got)
			}
		}
	}
}

// P20.2: a symbolic link's target, by its words, is looked at in the directory that the name tells.
func TestSymlinks(t *testing.T) {
	for target, cause := range map[string]api.Errno{
		"x": api.OK, "../f": api.OK, "../d/../f": api.OK, "./..": api.OK, "a/../..": api.OK, "": api.ErrTarget,
		"..": api.OK, "../..": api.ErrUnsafe, "/": api.ErrUnsafe, "x/../../..": api.ErrUnsafe, "../../x": api.ErrUnsafe,
	} {
		for _, leaving := range []bool{false, true} {
			h := held{t, example(t)}
			want := api.Report{Done: 1, Place: 512}
			if cause == api.ErrTarget || cause != api.OK && !leaving {
				want = api.Report{Name: "d/l", Cause: cause}
			}
			h.comes(symlink("d/l", target)+end, 1, by(api.Policy{Leaving: leaving}), want)
			if got, why := h.f.Readlink(at(h.f, "d/l")); want.Cause == api.OK && got != target {
				t.Errorf("%q: %q %d", target, got, why)
			}
		}
	}
}

// P20.2, P20.3: hard links to what is there, in the archive or ahead of it, and to what is not.
func TestHardLinks(t *testing.T) {
	for _, x := range []struct {
		name, link string
		there      int
		want       api.Report
	}{
		{"h", "f", api.Keep, api.Report{Done: 2, Bytes: 5, Place: 1536}},
		{"h", "a", api.Keep, api.Report{Done: 2, Bytes: 5, Place: 1536}},
		{"d/h", "./a", api.Keep, api.Report{Done: 2, Bytes: 5, Place: 1536}},
		{"a", "a", api.Keep, api.Report{Done: 2, Bytes: 5, Place: 1536}},
		{"a", "a", api.Replace, api.Report{Done: 2, Bytes: 5, Place: 1536}},
		{"a", "a", api.Skip, api.Report{Done: 1, Skipped: 1, Bytes: 5, Place: 1536}},
		{"f", "a", api.Keep, api.Report{Done: 1, Bytes: 5, Place: 1024, Name: "f", Cause: api.ErrThere}},
		{"f", "a", api.Replace, api.Report{Done: 2, Bytes: 5, Place: 1536}},
		{"f", "a", api.Skip, api.Report{Done: 1, Skipped: 1, Bytes: 5, Place: 1536}},
		{"s", "a", api.Replace, api.Report{Done: 2, Bytes: 5, Place: 1536}},
		{"d", "a", api.Replace, api.Report{Done: 1, Bytes: 5, Place: 1024, Name: "d", Cause: api.ErrThere}},
		{"h", "none", api.Skip, api.Report{Done: 1, Bytes: 5, Place: 1024, Name: "h", Cause: api.ErrNone}},
		{"h", "h", api.Keep, api.Report{Done: 1, Bytes: 5, Place: 1024, Name: "h", Cause: api.ErrNone}},
		{"h", "d", api.Keep, api.Report{Done: 1, Bytes: 5, Place: 1024, Name: "h", Cause: api.ErrLink}},
		{"h", "s", api.Keep, api.Report{Done: 1, Bytes: 5, Place: 1024, Name: "h", Cause: api.ErrLink}},
		{"h", "s/passwd", api.Keep, api.Report{Done: 1, Bytes: 5, Place: 1024, Name: "h", Cause: api.ErrInWay}},
		{"h", "a/x", api.Keep, api.Report{Done: 1, Bytes: 5, Place: 1024, Name: "h", Cause: api.ErrNotDir}},
		{"h", "../a", api.Keep, api.Report{Done: 1, Bytes: 5, Place: 1024, Name: "h", Cause: api.ErrDots}},
		{"h", "/a", api.Keep, api.Report{Done: 1, Bytes: 5, Place: 1024, Name: "h", Cause: api.ErrAbsolute}},
		{"h", "", api.Keep, api.Report{Done: 1, Bytes: 5, Place: 1024, Name: "h", Cause: api.ErrEmpty}},
	} {
		h := held{t, example(t)}
		h.comes(file("a", "bytes")+hard(x.name, x.link)+end, 1, by(api.Policy{There: x.there}), x.want)
		isDone := x.want.Done == 2
		if same := at(h.f, x.name) == at(h.f, x.link) && at(h.f, x.name) != 0; same != isDone && x.name != x.link {
			t.Errorf("%+v: %s", x, names(h.f, 1))
		}
	}
	// Data behind a header of a hard link there are none, and its own size plays no part.
	h := held{t, example(t)}
	b := made(api.Header{Name: "h", Type: '1', Link: "f"}, "x")[:512]
	h.comes(b+file("b", "b"), 1, api.Extraction{Quota: api.Quota{Bytes: 1, Entries: 2, Depth: 1}}, api.Report{Done: 2, Bytes: 1, Place: 1536})
	if bytesAt(h.f, "h") != "f" {
		t.Error(bytesAt(h.f, "h"))
	}
}
