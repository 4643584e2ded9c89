package archive_test

import (
	"archive/tar"
	"bytes"
	"compress/gzip"
	"io"
	"math"
	"slices"
	"strings"
	"testing"

	"satchel/api"
	"satchel/archive"
	"satchel/pack"
	"satchel/writer"
)

func ustar() api.Style { return api.Style{Form: api.Ustar} }

// P22.4: an empty directory, wherever it is, in everything.
func TestPackNothing(t *testing.T) {
	empty, within := newHeld(t, 1, 0), held{t, grown(t, "t/", "t/e/", "t/f", "g")}
	for _, s := range styles() {
		for _, p := range packings() {
			for _, m := range wrappings() {
				m.Style, m.Packing = s, p
				b := empty.mustPack(1, m)
				if plain, why := unwrap(t, b, 1024); why != api.OK || string(plain) != end || !bytes.Equal(within.mustPack(3, m), b) {
					t.Fatalf("%+v: %s %d", m, brief(b), why)
				}
			}
		}
	}
}

// P22.4: a top that is no inode, and one that is no directory, in everything that can be and in what can't.
func TestPackNowhere(t *testing.T) {
	h := held{t, house(t)}
	for top, want := range map[int]api.Errno{
		0: api.ErrOutside, -1: api.ErrOutside, 99: api.ErrOutside, math.MaxInt: api.ErrOutside, math.MinInt: api.ErrOutside,
		at(h.f, "f"): api.ErrNotDir, at(h.f, "s"): api.ErrNotDir, at(h.f, "t/h"): api.ErrNotDir, at(h.f, "t/in"): api.ErrNotDir,
	} {
		for _, m := range wrappings() {
			for _, form := range []int{0, api.Ustar, 5} {
				m.Style.Form = form
				if _, why := h.pack(top, m); why != want {
					t.Errorf("%d, %+v: %d, not %d", top, m, why, want)
				}
			}
		}
	}
}

// trees are file systems by the error that packing the root comes to.
func trees(t *testing.T) map[api.Errno]held {
	t.Helper()
	apart := newHeld(t, 9, api.MaxBytes)
	node, _ := apart.f.Create(1, "much", api.Meta{Nano: 5})
	apart.f.Resize(node, api.MaxBytes/2+1)
	apart.f.Link(1, "more", node)
	deep := newHeld(t, 300, 9)
	for dir, i := 1, 0; i < 257; i++ {
		dir, _ = deep.f.Mkdir(dir, "d", api.Meta{Nano: 5})
	}
	good := newHeld(t, 9, 9)
	good.f.Create(1, "f", api.Meta{Nano: 5})
	return map[api.Errno]held{api.ErrLong: apart, api.ErrDeep: deep, api.OK: good}
}

// P22.4: of the errors the first one: of the wrapping, that can't be; of the tree; of the writer; of what it is wrapped in: each alone, and in all choices.
func TestPackErrors(t *testing.T) {
	for tree, h := range trees(t) {
		for _, wrapping := range []int{api.Plain, api.LZ4, api.Gzip, -1, 3, math.MaxInt} {
			for style, written := range map[api.Style]api.Errno{
				{Form: api.Pax}: api.OK, {Form: api.Ustar}: api.ErrFits, {Form: api.V7}: api.ErrFits, {Form: api.GNU, Holes: 9}: api.ErrFits,
				{Form: api.Ustar, Holes: 1}: api.ErrArg, {Form: 5}: api.ErrArg, {}: api.ErrArg, {Form: api.Pax, Holes: -1}: api.ErrArg,
			} {
				for _, wrapped := range []api.Errno{api.OK, api.ErrArg} {
					m := api.Making{Packing: api.Packing{Apart: true}, Style: style, Wrap: wrapping, Shape: api.Shape{Block: 4}, Way: 1}
					if wrapped != api.OK {
						m.Shape.Block, m.Way = 3, 4
					}
					want := api.OK
					switch {
					case wrapping < 0 || wrapping > 2:
						want = api.ErrArg
					case tree != api.OK:
						want = tree
					case written != api.OK:
						want = written
					case wrapping != api.Plain:
						want = wrapped
					}
					if _, why := h.pack(1, m); why != want {
						t.Errorf("%d, %+v: %d, not %d", tree, m, why, want)
					}
				}
			}
		}
	}
	// A style that can't be is an error of no entries, too.
	if _, why := newHeld(t, 1, 0).pack(1, api.Making{Wrap: api.LZ4}); why != api.ErrArg {
		t.Error(why)
	}
}

// P22.4: an archive with just as many bytes as can be wrapped, and with one record more.
func TestPackMuch(t *testing.T) {
	t.Parallel()
	data := bytes.Repeat([]byte("0123456789abcdef"), api.MaxBytes/16)
	for n, want := range map[int]api.Errno{api.MaxBlock - 1536 - 511: api.OK, api.MaxBlock - 1536: api.OK, api.MaxBlock - 1536 + 1: api.ErrLong, api.MaxBlock: api.ErrLong} {
		h := with(t, "f", data[:n])
		for _, m := range append(three(), api.Making{Wrap: api.LZ4, Shape: api.Shape{Block: 7, Alone: true}}) {
			m.Style = ustar()
			b, why := h.pack(1, m)
			if m.Wrap == api.Plain && (why != api.OK || len(b) != 512+(n+511)/512*512+1024) || m.Wrap != api.Plain && why != want {
				t.Fatalf("%d, %+v: %d bytes, %d", n, m, len(b), why)
			}
			if why == api.OK {
				h.back(1, b, m)
			}
			m.Shape.Block, m.Way = 8, -1
			if _, why := h.pack(1, m); m.Wrap != api.Plain && why != api.ErrArg {
				t.Errorf("%d, %+v: %d", n, m, why)
			}
		}
	}
	// Holes are left out ahead of wrapping.
	h := with(t, "f", make([]byte, api.MaxBytes))
	for _, m := range three() {
		m.Style = api.Style{Form: api.GNU, Holes: 512}
		h.back(1, h.mustPack(1, m), m)
	}
}

// P22.4: all styles with all ways to pack and with all wrappings, of several tops: what is wrapped is what writer has of what pack has.
func TestPackEverything(t *testing.T) {
	t.Parallel()
	for _, top := range []int{1, 2, 9} {
		h := held{t, house(t)}
		for _, s := range styles() {
			for i, p := range packings() {
				l, _ := pack.Tree(h.f, top, p)
				want, why := writer.Write(l, s)
				if why != api.OK {
					t.Fatal(why)
				}
				for j, m := range wrappings() {
					if j%8 != i && j > 0 {
						continue
					}
					m.Style, m.Packing = s, p
					b := h.mustPack(top, m)
					if plain, why := archive.Unwrap(b, api.MaxBlock); why != api.OK || !bytes.Equal(plain, want) || archive.Kind(b) != m.Wrap {
						t.Fatalf("%d, %+v: %d", top, m, why)
					}
				}
			}
		}
	}
}

// P22.4: what a form has no room for is refused, unless it is left out.
func TestPackLeavesOut(t *testing.T) {
	for name, x := range map[string]struct {
		meta api.Meta
		p    api.Packing
		fits []int // in which forms, without leaving out
	}{
		"nanoseconds":   {api.Meta{Nano: 1}, api.Packing{NoTimes: true}, []int{api.Pax}},
		"an early time": {api.Meta{Time: -1}, api.Packing{NoTimes: true}, []int{api.GNU, api.Pax}},
		"a late time":   {api.Meta{Time: 1 << 33}, api.Packing{NoTimes: true}, []int{api.GNU, api.Pax}},
		"an owner":      {api.Meta{Uid: 1 << 21}, api.Packing{NoOwners: true}, []int{api.GNU, api.Pax}},
		"a group":       {api.Meta{Gid: math.MaxUint32}, api.Packing{NoOwners: true}, []int{api.GNU, api.Pax}},
		"the least":     {api.Meta{}, api.Packing{Apart: true}, []int{api.V7, api.Ustar, api.GNU, api.Pax}},
	} {
		for form := api.V7; form <= api.Pax; form++ {
			for _, m := range three() {
				m.Style.Form = form
				h := newHeld(t, 9, 9)
				h.f.Mkdir(1, "d", x.meta)
				want := api.ErrFits
				if slices.Contains(x.fits, form) {
					want = api.OK
				}
				if b, why := h.pack(1, m); why != want {
					t.Errorf("%s, %+v: %d, not %d", name, m, why, want)
				} else if why == api.OK {
					h.back(1, b, m)
				}
				m.Packing = x.p
				h.mustPack(1, m)
			}
		}
	}
	// A time that no form can tell is the writer's ErrArg.
	h := newHeld(t, 9, 9)
	h.f.Mkdir(1, "d", api.Meta{Time: math.MinInt64})
	if _, why := h.pack(1, api.Making{Style: api.Style{Form: api.Pax}}); why != api.ErrArg {
		t.Error(why)
	}
	h.mustPack(1, api.Making{Style: api.Style{Form: api.Pax}, Packing: api.Packing{NoTimes: true}})
}

// P22.4; P6 of the whole: a tree in a member, read by other readers of the standards.
func TestPackIsRead(t *testing.T) {
	h := held{t, house(t)}
	for _, form := range []int{api.V7, api.Ustar, api.GNU, api.Pax} {
		for way := range 4 {
			b := h.mustPack(2, api.Making{Style: api.Style{Form: form}, Wrap: api.Gzip, Way: way})
			unzipped, err := gzip.NewReader(bytes.NewReader(b))
			if err != nil {
				t.Fatal(err)
			}
			text := ""
			r := tar.NewReader(unzipped)
			for x, err := r.Next(); err != io.EOF; x, err = r.Next() {
				if err != nil {
					t.Fatal(err)
				}
				data, _ := io.ReadAll(r)
				text += " " + x.Name + "|" + x.Linkname + "|" + string(data)
			}
			want := " d|| d/e|| d/e/up|../../../out/d| d/g||t/d/g d/h||out/d/f d/h2|d/h| d/up|../..| dead|none| f||t/f file|../f| h||f i|f| in|d| loop|loop| out|../out| root|/| up|..|"
			if text != want {
				t.Errorf("%d, %d: %s", form, way, text)
			}
		}
	}
}

// P22.5: archives that end well, and ones with an error behind some names, in everything; with an error of unwrapping nothing is told.
func TestList(t *testing.T) {
	odd := file("../x", "evil") + file("/abs", "") + dir("", 0) + device("dev") + file("a", "1") + file("a", "2") + symlink("./s//", "..") + hard("h", "none") + dir("d/", 0)
	oddNames := " ../x /abs  dev a a ./s// h d/"
	for _, m := range wrappings() {
		for _, x := range []struct {
			plain, names string
			why          api.Errno
		}{
			{"", "", api.OK},
			{end, "", api.OK},
			{file("a", "1") + file("b", "2") + end, " a b", api.OK},
			{file("a", "1") + file("b", "2"), " a b", api.OK},
			{odd + end + "what stands behind", oddNames, api.OK},
			{odd + long('L', "long name") + file("x", "") + end, oddNames + " long name", api.OK},
			{odd + long('L', "long name"), oddNames, api.ErrAlone},
			{odd + strings.Repeat("#", 512), oddNames, api.ErrSum},
			{odd + file("b", "data")[:600], oddNames, api.ErrShort},
			{odd + "x", oddNames, api.ErrShort},
			{"no archive", "", api.ErrShort},
			{strings.Repeat("#", 512) + odd, "", api.ErrSum},
		} {
			b := mustWrap(t, []byte(x.plain), m)
			for _, most := range []int{len(x.plain), len(x.plain) + 1, api.MaxBlock} {
				if l, why := list(t, b, most); l != x.names || why != x.why {
					t.Errorf("%+v, at most %d of %d: %q %d, not %q %d", m, most, len(x.plain), l, why, x.names, x.why)
				}
			}
			for _, most := range []int{len(x.plain) - 1, len(x.plain) / 2, 0} {
				if l, why := list(t, b, max(most, 0)); len(x.plain) > 0 && (l != "" || why != api.ErrPlain) {
					t.Errorf("%+v, at most %d of %d: %q %d", m, most, len(x.plain), l, why)
				}
			}
			for _, most := range []int{-1, math.MinInt, api.MaxBlock + 1, math.MaxInt} {
				if l, why := list(t, b, most); l != "" || why != api.ErrArg {
					t.Errorf("%+v, at most %d: %q %d", m, most, l, why)
				}
			}
		}
	}
	for _, x := range faults(t) {
		if l, why := list(t, x.b, api.MaxBlock); l != "" || why != x.why {
			t.Errorf("%s: %q %d", x.name, l, why)
		}
	}
}

// P22.5: of an archive that is cut anywhere the names ahead of the cut.
func TestListCut(t *testing.T) {
	t.Parallel()
	b := []byte(dir("d", 0) + long('L', "a long name") + file("x", "data") + pairs('x', "path", "of pax") + symlink("s", "t") + end)
	for cut := range len(b) + 1 {
		var all []string
		for _, m := range three() {
			l, why := list(t, mustWrap(t, b[:cut], m), cut)
			all = append(all, l+" "+why.Error())
		}
		if all[0] != all[1] || all[0] != all[2] {
			t.Fatalf("%d: %q", cut, all)
		}
	}
}

// P22.5: what is packed is listed: each name once, rising.
func TestListOfTree(t *testing.T) {
	f := house(t)
	for _, s := range styles() {
		for _, m := range three() {
			m.Style = s
			want := strings.ReplaceAll(names(f, 2), "/ ", " ")
			if l, why := list(t, held{t, f}.mustPack(2, m), api.MaxBlock); l != want || why != api.OK {
				t.Errorf("%+v: %q %d, not %q", m, l, why, want)
			}
		}
	}
}
