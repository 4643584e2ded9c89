package archive_test

import (
	"bytes"
	"strings"
	"testing"

	"satchel/api"
	"satchel/archive"
	"satchel/frame"
	"satchel/vfs"
	"satchel/writer"
)

// P22.3, P22.4: the chapter's first example.
func TestExampleOfNothing(t *testing.T) {
	h := newHeld(t, 9, 99)
	for _, m := range []api.Making{
		{Style: api.Style{Form: api.Ustar}},
		{Style: api.Style{Form: api.Ustar}, Wrap: api.LZ4, Shape: api.Shape{Block: 4}},
	} {
		b := h.mustPack(1, m)
		if m.Wrap == api.Plain && string(b) != end {
			t.Error(brief(b))
		}
		if l, at, why := frame.Frames(b, 1024); m.Wrap == api.LZ4 && (why != api.OK || at != len(b) || len(l) != 1 || l[0].Size != 1024 || l[0].Shape != m.Shape) {
			t.Error(l, at, why)
		}
		h.nothing(b, 1, leaving, api.OK, api.OK)
	}
}

// P22.3: the chapter's second example, and the whole's fourth.
func TestExampleOfRefusals(t *testing.T) {
	h := newHeld(t, 9, 99)
	h.nothing(bin("04 22 4d 18"), 1, leaving, api.ErrShort, api.ErrFormat)
	zeros := mustWrap(t, make([]byte, 1<<22), api.Making{Wrap: api.LZ4, Shape: api.Shape{Block: 7}})
	if len(zeros) > 17<<10 {
		t.Error(len(zeros))
	}
	h.nothing(zeros, 1, api.Extraction{}, api.ErrPlain, api.ErrLimits)
}

// P22.2, P22.5: the chapter's third example.
func TestExampleOfNames(t *testing.T) {
	b := mustWrap(t, []byte(file("a", "1")+file("b", "2")+end), api.Making{Wrap: api.Gzip})
	if l, why := archive.List(b, api.MaxBlock); len(l) != 2 || l[0] != "a" || l[1] != "b" || why != api.OK {
		t.Error(l, why)
	}
	if b, why := archive.Wrap(nil, api.Making{Wrap: 3}); b != nil || why != api.ErrArg {
		t.Error(b, why)
	}
}

// The examples of the whole that bring out, 1 to 3 and 8, in each wrapping.
func TestExamplesOfTheWhole(t *testing.T) {
	for _, m := range three() {
		h := newHeld(t, 9, 99)
		h.nothing(mustWrap(t, make([]byte, 1024), m), 1, leaving, api.OK, api.OK)

		h = held{t, house(t)}
		b := mustWrap(t, []byte(symlink("s", "/etc")+file("s/passwd", "evil")+end), m)
		h.comes(b, 2, leaving, api.Report{Done: 1, Place: 512, Name: "s/passwd", Cause: api.ErrInWay}, api.ErrBlocked)
		for name, cause := range map[string]api.Errno{"../passwd": api.ErrDots, "/passwd": api.ErrAbsolute} {
			h := held{t, house(t)}
			b := mustWrap(t, []byte(file(name, "evil")+end), m)
			h.unchanged(name, func() { h.comes(b, 2, leaving, api.Report{Name: name, Cause: cause}, api.ErrUnsafer) })
		}

		h = newHeld(t, 9, 99)
		b = mustWrap(t, []byte(file("a", "1")+file("b", "22")+file("c", "333")[:700]), m)
		h.comes(b, 1, leaving, api.Report{Done: 2, Bytes: 3, Place: 2748, Cause: api.ErrShort}, api.ErrFormat)
		if bytesAt(h.f, "a") != "1" || bytesAt(h.f, "b") != "22" || names(h.f, 1) != " a b" {
			t.Error(names(h.f, 1))
		}
	}
}

// The examples of the whole that pack, 5 to 7, in each wrapping.
func TestExamplesOfPacking(t *testing.T) {
	for _, m := range three() {
		m.Style = api.Style{Form: api.Ustar}
		h := held{t, grown(t, "d/", "d/f", "h = d/f")}
		b := h.mustPack(1, m)
		plain, _ := unwrap(t, b, api.MaxBlock)
		want, _ := writer.Write([]api.Packed{
			{Entry: api.Entry{Name: "d", Kind: api.Dir, Meta: api.Meta{Uid: 5}}},
			{Entry: api.Entry{Name: "d/f", Kind: api.File, Meta: api.Meta{Mode: 1, Uid: 5, Time: 1}, Size: 3}, Data: []byte("d/f")},
			{Entry: api.Entry{Name: "h", Kind: api.HardLink, Meta: api.Meta{Mode: 1, Uid: 5, Time: 1}, Link: "d/f"}},
		}, m.Style)
		if !bytes.Equal(plain, want) {
			t.Error(sketch(b))
		}
		g := newHeld(t, 9, 99)
		g.comes(b, 1, leaving, api.Report{Done: 3, Bytes: 3, Place: 2048}, api.OK)
		if is, _ := g.f.Stat(at(g.f, "h")); is.Links != 2 || at(g.f, "h") != at(g.f, "d/f") || !vfs.Alike(h.f, 1, g.f, 1) {
			t.Error(is)
		}

		data := strings.Repeat("x", 10) + strings.Repeat("\x00", 2000) + strings.Repeat("x", 10)
		m.Style = api.Style{Form: api.GNU, Holes: 100}
		h = with(t, "f", []byte(data))
		b = h.mustPack(1, m)
		// A header, the data of one record, the end: the map of two ranges stands in the header.
		if plain, _ := unwrap(t, b, api.MaxBlock); len(plain) != 512+512+1024 {
			t.Error(len(plain))
		}
		g = newHeld(t, 9, 9999)
		g.comes(b, 1, leaving, api.Report{Done: 1, Bytes: 2020, Place: 1024}, api.OK)
		if bytesAt(g.f, "f") != data {
			t.Error(bytesAt(g.f, "f"))
		}

		far := strings.Repeat("n", 150) + "/" + strings.Repeat("m", 149)
		h = held{t, grown(t, far[:150]+"/", far)}
		for form, want := range map[int]api.Errno{api.V7: api.ErrFits, api.Ustar: api.ErrFits, api.GNU: api.OK, api.Pax: api.OK} {
			m.Style = api.Style{Form: form}
			b, why := h.pack(1, m)
			if why != want {
				t.Errorf("%+v: %d", m, why)
			}
			if l, _ := list(t, b, api.MaxBlock); why == api.OK && l != " "+far[:150]+" "+far {
				t.Error(l)
			}
		}
	}
}
