package extract_test

import (
	"slices"
	"strings"
	"testing"

	"satchel/api"
	"satchel/extract"
	"satchel/vfs"
)

// kept tells whether the files of house that are named outside hold what they held.
func kept(f *vfs.FS) bool {
	for name, data := range map[string]string{"f": "f", "out/f": "out/f", "out/d/f": "out/d/f", "out/h": "t/d/g"} {
		if bytesAt(f, name) != data {
			return false
		}
	}
	return names(f, at(f, "out")) == " d/ d/f d/link f h"
}

// P20.5, P20.6: whatever link an entry goes through or names, nothing outside changes; the links are there, or are planted by the archive.
func TestLinksLeadNowhere(t *testing.T) {
	t.Parallel()
	for link, target := range map[string]string{
		"up": "..", "out": "../out", "root": "/", "file": "../f", "d/up": "../..", "d/e/up": "../../../out/d", "loop": "loop", "in": "d", "dead": "none",
		"new1": "..", "new2": "../out", "new3": "/", "new4": "../out/f", "d/new": "../../out", "new5": ".", "new6": "d/up/out",
	} {
		for _, there := range ways {
			for _, parents := range []bool{false, true} {
				o := by(api.Policy{There: there, Parents: parents, Leaving: true})
				ahead := ""
				if strings.Contains(link, "new") {
					ahead = symlink(link, target)
				}
				planted := len(ahead) / 512
				for _, below := range []string{"/x", "/f", "/d/f", "/t/f", "/out/f", "/d", "/etc/passwd"} {
					name := link + below
					for _, b := range []string{dir(name, 0o777), file(name, "evil"), symlink(name, "/"), hard(name, "f")} {
						h := held{t, house(t)}
						h.comes(ahead+b+end, 2, o, api.Report{Done: planted, Place: len(ahead), Name: name, Cause: api.ErrInWay})
					}
					h := held{t, house(t)}
					h.comes(ahead+hard("x", name)+end, 2, o, api.Report{Done: planted, Place: len(ahead), Name: "x", Cause: api.ErrInWay})
				}
				for _, b := range []string{dir(link, 0o777), file(link, "evil"), symlink(link, "/"), hard(link, "f")} {
					h := held{t, house(t)}
					report, _ := h.extract(ahead+b+end, 2, o)
					if want := map[int]api.Errno{api.Keep: api.ErrThere}[there]; report.Cause != want || !kept(h.f) {
						t.Errorf("%s %d: %+v", link, there, report)
					}
				}
			}
		}
	}
}

// P20.5: a file that has a name outside keeps its bytes and its meta, whatever becomes of its names inside.
func TestNamesOutside(t *testing.T) {
	o := by(api.Policy{There: api.Replace, Leaving: true})
	for in, out := range map[string]string{"h": "f", "d/h": "out/d/f", "d/g": "out/h"} {
		for _, b := range []string{
			file(in, "evil"),
			file(in, ""),
			dir(in, 0o777),
			symlink(in, "/"),
			hard(in, "f"),
			hard("new", in) + file("new", "evil"),
			hard("new", in) + file(in, "evil") + hard(in, "new") + file(in, "more") + file("new", "evil"),
			oldHoles(in, 9, []api.Range{{From: 1, To: 2}}, "x"),
		} {
			h := held{t, house(t)}
			was, node := metaAt(h.f, out), at(h.f, out)
			if report, why := h.extract(b+end, 2, o); why != api.OK || !kept(h.f) || at(h.f, out) != node || metaAt(h.f, out) != was {
				t.Errorf("%s: %+v %d", in, report, why)
			}
		}
	}
}

// P20.5, P20.6; P1 and P2 of the whole: archives whose entries set traps for those behind them, by all policies, and cut off anywhere.
func TestTraps(t *testing.T) {
	t.Parallel()
	for i, list := range [][]string{
		{symlink("x", ".."), file("x/f", "evil")},
		{symlink("x", "/"), dir("x", 0o777), file("x/f", "evil")},
		{symlink("x", "../f"), file("x", "evil")},
		{symlink("x", "../f"), hard("y", "x"), file("y", "evil")},
		{symlink("x", "../out"), hard("y", "x/f"), file("y", "evil")},
		{dir("x", 0), symlink("x", ".."), file("x/f", "evil")},
		{dir("x", 0), file("x/y", "a"), symlink("x/y", "../.."), file("x/y/f", "evil")},
		{symlink("x", "y"), symlink("y", ".."), file("x/f", "evil")},
		{symlink("x", "d/up"), dir("x", 0o777), file("x/f", "evil")},
		{hard("x", "h"), file("x", "evil"), dir("x", 0o777)},
		{dir("up", 0o777), file("up/f", "evil")},
		{file("up", "evil"), file("up", "evil"), dir("up", 0)},
		{symlink("x", "."), file("x/f", "evil"), dir("x", 0)},
		{long('L', "../f") + file("f", "evil"), dir("x", 0)},
		{pairs('x', "path", "/f") + file("f", "evil"), dir("x", 0)},
		{pairs('g', "path", "out/f") + file("x", "evil"), file("y", "evil")},
		{pairs('x', "linkpath", "../f") + hard("x", "f"), file("x", "evil")},
		{long('K', "../../out") + symlink("x", "d"), file("x/f", "evil")},
		{dir("../t", 0o777), dir("..", 0o777), dir("../out", 0o777)},
	} {
		b := strings.Join(list, "") + end
		for _, there := range ways {
			for bits := range 4 {
				o := by(api.Policy{There: there, Parents: bits&1 == 1, Leaving: bits&2 == 2, Mask: 0o22})
				for n := 0; n <= len(b); n += 256 {
					h := held{t, house(t)}
					if report, _ := h.extract(b[:n], 2, o); !kept(h.f) {
						t.Errorf("%d: %+v", i, report)
					}
				}
			}
		}
	}
}

// P20.6: what symbolic links point to plays no part: with other targets of what is there all is the same.
func TestTargetsPlayNoPart(t *testing.T) {
	var list []string
	for _, name := range []string{"x", "up", "up/x", "d/up/f", "f", "in/g", "d", "file", "d/e/x", "link"} {
		list = append(list, dir(name, 0), file(name, "evil"), symlink(name, "x"), hard(name, "f"), hard("y", name))
	}
	for _, b := range list {
		for _, there := range ways {
			o := by(api.Policy{There: there, Parents: true})
			f := house(t)
			image := f.Image()
			for i := range image.List {
				image.List[i].Target = strings.Repeat("d", len(image.List[i].Target))
			}
			g, _ := vfs.Load(image)
			f.Forget()
			one, why := extract.Extract([]byte(file("a", "a")+b+end), f, 2, o)
			two, other := extract.Extract([]byte(file("a", "a")+b+end), g, 2, o)
			if one != two || why != other || !slices.Equal(f.Trace(), g.Trace()) {
				t.Errorf("%s: %+v %d, with other targets %+v %d", sketch(b), one, why, two, other)
			}
		}
	}
}

// P20.6: the trace of an archive of all kinds, call by call.
func TestTrace(t *testing.T) {
	f := grown(t, "t/", "t/d/", "t/s -> d", "t/f")
	b := dir("d", 0) + file("d/new", "abc") + symlink("d/l", "new") + hard("d/h", "f") + file("s", "x") + file("p/q/e", "") + dir("p", 0o7) + symlink("f", "d")
	h := held{t, f}
	ahead := len(f.Trace())
	h.comes(b+file("../x", "")+end, 2, by(api.Policy{There: api.Replace, Parents: true}),
		api.Report{Done: 8, Bytes: 4, Place: len(b), Name: "../x", Cause: api.ErrDots})
	want := []api.Act{
		{Op: api.OpMeta, Node: 3},
		{Op: api.OpCreate, Dir: 3, Name: "new", Node: 6},
		{Op: api.OpWrite, Node: 6, N: 3},
		{Op: api.OpSymlink, Dir: 3, Name: "l", Node: 7},
		{Op: api.OpLink, Dir: 3, Name: "h", Node: 5},
		{Op: api.OpUnlink, Dir: 2, Name: "s", Node: 4},
		{Op: api.OpCreate, Dir: 2, Name: "s", Node: 8},
		{Op: api.OpWrite, Node: 8, N: 1},
		{Op: api.OpMkdir, Dir: 2, Name: "p", Node: 9},
		{Op: api.OpMkdir, Dir: 9, Name: "q", Node: 10},
		{Op: api.OpCreate, Dir: 10, Name: "e", Node: 11},
		{Op: api.OpMeta, Node: 9},
		{Op: api.OpUnlink, Dir: 2, Name: "f", Node: 5},
		{Op: api.OpSymlink, Dir: 2, Name: "f", Node: 12},
		{Op: api.OpMeta, Node: 9},
		{Op: api.OpMeta, Node: 3},
	}
	if got := f.Trace()[ahead:]; !slices.Equal(got, want) {
		t.Errorf("%+v", got)
	}
}
