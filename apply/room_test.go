package apply_test

import (
	"strings"
	"testing"

	"satchel/api"
	"satchel/apply"
	"satchel/vfs"
	"satchel/walk"
)

// gone tells whether a name names nothing.
func gone(f *vfs.FS, name string) bool {
	_, _, why := walk.Find(f, 1, strings.Split(name, "/"))
	return why == api.ErrNone
}

// numbered gives a file system so many more numbers of inodes.
func numbered(t *testing.T, f *vfs.FS, n int) held {
	t.Helper()
	image := f.Image()
	image.Next = api.MaxNumber - n
	g, why := vfs.Load(image)
	if why != api.OK {
		t.Fatal(why)
	}
	return held{t, g}
}

// P19.2: no inodes left, or no numbers, at each step: what was made ahead stays.
func TestNoInodes(t *testing.T) {
	for _, e := range []api.Entry{directory("a/b/c"), file("a/b/c", 0), file("a/b/c", 4), symlink("a/b/c", "x"), hard("a/b/c", "f")} {
		need := 3
		if e.Kind == api.HardLink { // another name is no inode
			need = 2
		}
		data := []byte("data")
		if e.Size == 0 {
			data = nil
		}
		for n := range 5 {
			for _, h := range []held{room(t, example(t), n, 100), numbered(t, example(t), n)} {
				for _, there := range ways {
					h := held{t, h.f.Clone()}
					p := api.Policy{There: there, Parents: true}
					if n >= need {
						node := h.f.Image().Next + 2
						if e.Kind == api.HardLink {
							node = 4
						}
						h.ok(1, e, data, p, api.Done{Node: node, Made: 2})
						continue
					}
					h.whys(1, e, data, p, api.ErrSpace)
					if gone(h.f, "a") != (n < 1) || gone(h.f, "a/b") != (n < 2) || !gone(h.f, "a/b/c") {
						t.Errorf("%d: %s", n, brief(h.f.Image()))
					}
				}
			}
		}
	}
}

// P19.2: no bytes left, or more than a file may have: the file stays, with no bytes and its meta.
func TestNoBytesLeft(t *testing.T) {
	e := file("d/x", 4)
	e.Meta = api.Meta{Mode: 0o777, Nano: 5}
	for n := range 6 {
		h := room(t, example(t), 9, n)
		if n >= 4 {
			h.ok(1, e, []byte("data"), api.Policy{Mask: 0o22}, api.Done{Node: 5})
			continue
		}
		h.whys(1, e, []byte("data"), api.Policy{Mask: 0o22}, api.ErrSpace)
		if is, _ := h.f.Stat(5); is != (api.Stat{Node: 5, Kind: api.File, Meta: api.Meta{Mode: 0o755, Nano: 5}, Links: 1}) {
			t.Errorf("%d: %+v", n, is)
		}
		if nodes, bytes := h.f.Free(); nodes != 8 || bytes != n {
			t.Errorf("%d: room for %d and %d", n, nodes, bytes)
		}
	}
	f, _ := vfs.New(9, api.MaxBytes)
	full := make([]byte, api.MaxFile+1)
	if done, why := apply.Apply(f, 1, file("a", len(full)), full, api.Policy{}); done != (api.Done{}) || why != api.ErrArg || bytesAt(f, "a") != "" {
		t.Error(done, why)
	}
	full[api.MaxFile-1] = 'x'
	if done, why := apply.Apply(f, 1, file("b", api.MaxFile), full[:api.MaxFile], api.Policy{}); done != (api.Done{Node: 3}) || why != api.OK || bytesAt(f, "b") != string(full[:api.MaxFile]) {
		t.Error(done, why)
	}
	if done, why := apply.Apply(f, 1, file("c", 1), []byte("x"), api.Policy{}); done != (api.Done{}) || why != api.ErrSpace || bytesAt(f, "c") != "" {
		t.Error(done, why)
	}
	if done, why := apply.Apply(f, 1, file("b", 1), []byte("x"), api.Policy{There: api.Replace}); done != (api.Done{Node: 5, Replaced: true}) || why != api.OK {
		t.Error(done, why) // what was taken away left its room
	}
}

// P19.2: an error behind Unlink: what was taken away stays so.
func TestTakenAway(t *testing.T) {
	replace := api.Policy{There: api.Replace}
	shared := func() *vfs.FS { return grown(t, "d/", "s -> /etc", "f", "d/h = f", "d/s = s") }
	for _, name := range []string{"f", "s"} {
		for _, e := range []api.Entry{directory(name), file(name, 4), symlink(name, "x")} {
			data := []byte("data")
			// The only name of an inode leaves room for another one; one of two does not.
			h := room(t, example(t), 0, 9)
			h.ok(1, e, data, replace, api.Done{Node: 5, Replaced: true})
			h = room(t, shared(), 0, 9)
			h.whys(1, e, data, replace, api.ErrSpace)
			if !gone(h.f, name) || bytesAt(h.f, "d/h") != "f" || gone(h.f, "d/s") {
				t.Errorf("%s: %s", name, brief(h.f.Image()))
			}
			h = numbered(t, example(t), 0)
			h.whys(1, e, data, replace, api.ErrSpace)
			if !gone(h.f, name) {
				t.Errorf("%s: %s", name, brief(h.f.Image()))
			}
			// With Keep and Skip nothing was taken away by then.
			h.f = example(t)
			h.whys(1, e, data, api.Policy{}, api.ErrThere)
			h.ok(1, e, data, api.Policy{There: api.Skip}, api.Done{Skipped: true})
		}
	}
	// Bytes likewise: f's one byte is free only if no other name has it.
	h := room(t, example(t), 0, 3)
	h.ok(1, file("f", 4), []byte("data"), replace, api.Done{Node: 5, Replaced: true})
	h = room(t, shared(), 1, 3)
	h.whys(1, file("f", 4), []byte("data"), replace, api.ErrSpace)
	if bytesAt(h.f, "f") != "" || bytesAt(h.f, "d/h") != "f" {
		t.Errorf("%q %q", bytesAt(h.f, "f"), bytesAt(h.f, "d/h"))
	}
	// A hard link needs neither.
	h = room(t, grown(t, "f", "g", "d/", "d/g = g"), 0, 0)
	h.ok(1, hard("g", "f"), nil, replace, api.Done{Node: 2, Replaced: true})
	if bytesAt(h.f, "g") != "f" || bytesAt(h.f, "d/g") != "g" {
		t.Error(bytesAt(h.f, "g"), bytesAt(h.f, "d/g"))
	}
}

// P19.2: names that are too long, at each place, and others that no file system has: refused ahead of all else.
func TestLongNames(t *testing.T) {
	h := held{t, example(t)}
	h.unchanged("too long", func() {
		for _, name := range []string{wide(256), wide(256) + "/x", "n/" + wide(256) + "/x", "n/n/" + wide(256)} {
			for _, e := range []api.Entry{directory(name), file(name, 0), symlink(name, "x"), hard(name, "f"), hard("n/n", name)} {
				h.whys(1, e, nil, api.Policy{Parents: true}, api.ErrName)
			}
		}
		for _, x := range refused {
			h.whys(1, directory(x.name), nil, api.Policy{Parents: true}, x.why)
		}
	})
	h.ok(1, file(wide(255)+"/"+wide(255), 0), nil, api.Policy{Parents: true}, api.Done{Node: 6, Made: 1})
	h.ok(1, directory(deep(256)), nil, api.Policy{Parents: true}, api.Done{Node: 262, Made: 255})
	h.ok(1, file(long(4096), 0), nil, api.Policy{Parents: true}, api.Done{Node: 303, Made: 40})
}

// P19.3: All with an error of the file system: the Dones ahead of it, and what was made stays.
func TestAllWithoutRoom(t *testing.T) {
	l := []api.Packed{{Entry: directory("a")}, {Entry: file("a/f", 2), Data: []byte("xy")}, {Entry: file("b/c/f", 2), Data: []byte("zz")}, {Entry: directory("q")}}
	for n, count := range []int{0, 1, 2, 2, 2, 3, 4} {
		h := room(t, example(t), n, 9)
		done, why := apply.All(h.f, 1, l, api.Policy{Parents: true})
		want := api.ErrSpace
		if count == 4 {
			want = api.OK
		}
		if len(done) != count || why != want {
			t.Errorf("%d: %+v %d", n, done, why)
		}
		if free, _ := h.f.Free(); free != 0 {
			t.Errorf("%d: room for %d", n, free)
		}
	}
}
