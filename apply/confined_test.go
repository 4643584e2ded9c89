package apply_test

import (
	"slices"
	"strings"
	"testing"

	"satchel/api"
	"satchel/apply"
	"satchel/vfs"
)

// house is a file system with a top, "t" (2), and what lies outside of it: links in top lead out in all ways, and files have names in and outside.
func house(t *testing.T) *vfs.FS {
	return grown(t,
		"t/", "out/", "out/d/", "out/d/f", "out/f", "f", "s -> t",
		"t/d/", "t/d/e/", "t/f", "t/d/g",
		"t/up -> ..", "t/out -> ../out", "t/root -> /", "t/file -> ../f", "t/d/up -> ../..", "t/d/e/up -> ../../../out/d", "t/loop -> loop", "t/in -> d", "t/dead -> none",
		"t/h = f", "t/d/h = out/d/f", "out/h = t/d/g", "out/d/link = t/up", "t/link = s",
	)
}

// P19.4, P19.5: whatever link an entry goes through or names, nothing outside changes; what the way is, is held by apply.
func TestLinksLeadNowhere(t *testing.T) {
	for _, link := range []string{"up", "out", "root", "file", "d/up", "d/e/up", "loop", "in", "dead", "link"} {
		for _, there := range ways {
			for _, parents := range []bool{false, true} {
				p := api.Policy{There: there, Parents: parents, Leaving: true}
				for _, below := range []string{"/x", "/f", "/d/f", "/t/f", "/out/f", "/d", "/etc/passwd"} {
					for _, e := range []api.Entry{directory(link + below), file(link+below, 3), symlink(link+below, "/"), hard(link+below, "f"), hard("new", link+below)} {
						h := held{t, house(t)}
						h.unchanged(e.Name, func() { h.whys(2, e, []byte("new"), p, api.ErrInWay) })
					}
				}
				for _, e := range []api.Entry{directory(link), file(link, 3), symlink(link, "/"), hard(link, "f")} {
					e.Meta.Mode = 0o123
					h := held{t, house(t)}
					done, why := h.apply(2, e, []byte("new"), p)
					switch {
					case there == api.Keep && why != api.ErrThere,
						there == api.Replace && (why != api.OK || !done.Replaced),
						there == api.Skip && (why != api.OK || !done.Skipped):
						t.Errorf("%s %d: %+v %d", link, there, done, why)
					}
				}
				h := held{t, house(t)}
				h.unchanged(link, func() { h.whys(2, hard("new", link), nil, p, api.ErrLink) })
			}
		}
	}
}

// P19.4: a file that has a name outside keeps its bytes and its meta, whatever becomes of its name inside.
func TestNamesOutside(t *testing.T) {
	replace := api.Policy{There: api.Replace}
	for _, x := range []struct{ in, out, data string }{{"h", "f", "f"}, {"d/h", "out/d/f", "out/d/f"}, {"d/g", "out/h", "t/d/g"}} {
		for _, e := range []api.Entry{directory(x.in), file(x.in, 3), file(x.in, 0), symlink(x.in, "z"), hard(x.in, "f")} {
			e.Meta = api.Meta{Mode: 0o777, Time: 99}
			data := []byte("new")[:e.Size]
			h := held{t, house(t)}
			if done, why := h.apply(2, e, data, replace); why != api.OK || !done.Replaced {
				t.Errorf("%s: %+v %d", x.in, done, why)
			}
			if bytesAt(h.f, x.out) != x.data {
				t.Errorf("%s is %q", x.out, bytesAt(h.f, x.out))
			}
		}
		// And what has it as a hard link is another name alone.
		h := held{t, house(t)}
		e := hard("new", x.in)
		e.Meta = api.Meta{Mode: 0o777, Time: 99}
		if _, why := h.apply(2, e, []byte("new"), replace); why != api.OK || bytesAt(h.f, "t/new") != x.data {
			t.Error(x.in, why)
		}
		// A name that is another file now is changed by nothing that goes to the old one.
		h.ok(2, file("new", 3), []byte("new"), replace, api.Done{Node: 22, Replaced: true})
		if bytesAt(h.f, x.out) != x.data || bytesAt(h.f, "t/new") != "new" {
			t.Error(bytesAt(h.f, x.out), bytesAt(h.f, "t/new"))
		}
	}
}

// P19.4, P19.5: entries that set traps for those behind them.
func TestTraps(t *testing.T) {
	l := func(entries ...api.Entry) []api.Packed {
		var list []api.Packed
		for _, e := range entries {
			list = append(list, api.Packed{Entry: e, Data: []byte("evil")[:e.Size]})
		}
		return list
	}
	for i, x := range []struct {
		l     []api.Packed
		count int
		why   api.Errno
	}{
		{l(symlink("x", ".."), file("x/f", 4)), 1, api.ErrInWay},
		{l(symlink("x", "/"), directory("x")), 2, api.OK},
		{l(symlink("x", "../f"), file("x", 4)), 2, api.OK},
		{l(symlink("x", "../f"), hard("y", "x")), 1, api.ErrLink},
		{l(symlink("x", "../out"), hard("y", "x/f"), file("y", 4)), 1, api.ErrInWay},
		{l(directory("x"), symlink("x", "..")), 1, api.ErrThere},
		{l(directory("x"), file("x/y", 4), symlink("x/y", "../.."), file("x/y/f", 4)), 3, api.ErrInWay},
		{l(symlink("x", "y"), symlink("y", ".."), file("x/f", 4)), 2, api.ErrInWay},
		{l(hard("x", "h"), file("x", 4)), 2, api.OK},
		{l(hard("x", "d/h"), hard("y", "x"), file("x", 4), file("y", 4)), 4, api.OK},
		{l(file("up", 4), file("up", 4)), 2, api.OK},
		{l(directory("up"), file("up/f", 4)), 2, api.OK}, // it is no link any more
		{l(symlink("x", "."), file("x/f", 4)), 1, api.ErrInWay},
	} {
		p := api.Policy{There: api.Replace, Leaving: true, Parents: true}
		f := house(t)
		old := modelOf(f)
		done, why := apply.All(f, 2, x.l, p)
		if len(done) != x.count || why != x.why {
			t.Errorf("%d: %+v %d", i, done, why)
		}
		if fault := confined(old, modelOf(f), 2); fault != "" {
			t.Errorf("%d: %s", i, fault)
		}
		if !slices.Equal([]string{bytesAt(f, "f"), bytesAt(f, "out/f"), bytesAt(f, "out/d/f")}, []string{"f", "out/f", "out/d/f"}) {
			t.Errorf("%d: %s", i, brief(f.Image()))
		}
		h := held{t, house(t)}
		for _, x := range x.l {
			if _, why := h.apply(2, x.Entry, x.Data, p); why != api.OK {
				break
			}
		}
		if !sameImage(h.f.Image(), f.Image()) {
			t.Errorf("%d: one by one %s, not %s", i, brief(h.f.Image()), brief(f.Image()))
		}
	}
}

// P19.7: with Keep nothing that was there is changed but metas of directories: those alone, of all entries of a kind and name that are about.
func TestKeep(t *testing.T) {
	names := []string{"new", "d", "d/e", "f", "d/g", "h", "d/h", "up", "out", "d/up", "loop", "d/new", "d/e/new", "n/n"}
	for _, top := range []int{1, 2} {
		for _, name := range names {
			if top == 1 {
				name = "t/" + name
			}
			for _, e := range []api.Entry{directory(name), file(name, 3), symlink(name, "x"), hard(name, "f")} {
				e.Meta = api.Meta{Mode: 0o777, Uid: 9, Time: 99}
				h := held{t, house(t)}
				old := h.f.Image()
				_, why := h.apply(top, e, []byte("new"), api.Policy{Parents: true})
				now := modelOf(h.f)
				for _, n := range old.List {
					x := now.at(n.Number)
					changed := x == nil || x.Meta != n.Meta || string(x.Data) != string(n.Data) || x.Target != n.Target
					itself := e.Kind == api.Dir && why == api.OK && (name == "d" || name == "t/d") && n.Number == 9 ||
						e.Kind == api.Dir && why == api.OK && (name == "d/e" || name == "t/d/e") && n.Number == 10
					if changed != itself {
						t.Errorf("%+v: %d is %+v, was %+v", e, n.Number, x, n)
					}
				}
			}
		}
	}
}

// P19.4, P19.5: what symbolic links point to plays no part: with other targets all is the same.
func TestTargetsPlayNoPart(t *testing.T) {
	names := []string{"x", "up", "up/x", "d/up/f", "f", "in/g", "d", "file", "d/e/x"}
	for _, name := range names {
		for _, e := range []api.Entry{directory(name), file(name, 3), symlink(name, "x"), hard(name, "f"), hard("x", name), hard("x", "in/g")} {
			for _, there := range ways {
				p := api.Policy{There: there, Parents: true}
				f := house(t)
				image := f.Image()
				for i := range image.List {
					image.List[i].Target = strings.Repeat("d", len(image.List[i].Target))
				}
				g, _ := vfs.Load(image)
				f.Forget()
				one, why := apply.Apply(f, 2, e, []byte("new"), p)
				two, other := apply.Apply(g, 2, e, []byte("new"), p)
				if one != two || why != other || !slices.Equal(f.Trace(), g.Trace()) {
					t.Errorf("%+v: %+v %d, with other targets %+v %d", e, one, why, two, other)
				}
			}
		}
	}
}
