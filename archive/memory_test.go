package archive_test

import (
	"bytes"
	"slices"
	"testing"

	"satchel/api"
	"satchel/archive"
)

// spoil turns all bytes of an answer, its spare room too.
func spoil(b []byte) {
	b = b[:cap(b)]
	for i := range b {
		b[i] = '#'
	}
}

// Memory: what Unwrap and Wrap tell is new, also where it is what was handed in: neither knows what becomes of the other one.
func TestMemoryOfBytes(t *testing.T) {
	for _, plain := range []string{"", "some text", file("a", "data") + end} {
		for _, m := range wrappings() {
			with := append([]byte(plain), "spare"...)
			b, why := archive.Wrap(with[:len(plain)], m)
			if why != api.OK {
				t.Fatal(why)
			}
			was := slices.Clone(b)
			spoil(with)
			if !bytes.Equal(b, was) {
				t.Fatalf("%+v: the answer knows of what was handed in", m)
			}
			with = append([]byte(plain), "spare"...)
			b, _ = archive.Wrap(with[:len(plain)], m)
			spoil(b)
			if string(with) != plain+"spare" {
				t.Fatalf("%+v: what was handed in knows of the answer", m)
			}

			with = append(slices.Clone(was), "spare"...)
			got, why := archive.Unwrap(with[:len(was)], len(plain))
			other, _ := archive.Unwrap(with[:len(was)], len(plain))
			spoil(got)
			if why != api.OK || string(other) != plain || !bytes.Equal(with, append(slices.Clone(was), "spare"...)) {
				t.Fatalf("%+v: the answer is not its holder's alone", m)
			}
			spoil(with)
			if string(other) != plain {
				t.Fatalf("%+v: the answer knows of what was handed in", m)
			}
		}
	}
}

// Memory: the names that List tells stay as they are.
func TestMemoryOfNames(t *testing.T) {
	plain := file("first", "1") + long('L', "a long name") + file("x", "") + pairs('x', "path", "of pax") + file("x", "") + end
	for _, m := range three() {
		b := mustWrap(t, []byte(plain), m)
		l, why := archive.List(b, api.MaxBlock)
		other, _ := archive.List(b, api.MaxBlock)
		was := slices.Clone(b)
		for i := range l[:cap(l)] {
			l[:cap(l)][i] = "spoilt"
		}
		if !bytes.Equal(b, was) || why != api.OK {
			t.Fatal(why)
		}
		spoil(b)
		if !slices.Equal(other, []string{"first", "a long name", "of pax"}) {
			t.Error(other)
		}
	}
}

// Memory: the bytes that Extract is handed are not kept, and what Pack tells is its holder's alone.
func TestMemoryOfTrees(t *testing.T) {
	for _, m := range wrappings() {
		m.Style.Form = api.Ustar
		h := held{t, house(t)}
		b := h.mustPack(2, m)
		was := slices.Clone(b)
		h.unchanged("the answer spoilt", func() { spoil(b) })
		if again := h.mustPack(2, m); !bytes.Equal(again, was) {
			t.Fatalf("%+v: it is another one now", m)
		}
		g := newHeld(t, 99, 999)
		b = mustWrap(t, []byte(file("a", "data")+file("a", "again")), m)
		report, why := g.extract(b, 1, leaving)
		g.unchanged("the bytes spoilt", func() { spoil(b) })
		if report.Name != "a" || why != api.ErrBlocked || bytesAt(g.f, "a") != "data" {
			t.Error(report, why)
		}
		// What was told stays, whatever becomes of the file system.
		b = h.mustPack(2, m)
		for _, n := range h.f.Image().List {
			h.f.Write(n.Number, 0, []byte("######"))
			h.f.Change(n.Number, api.Meta{Mode: 0o123})
		}
		if !bytes.Equal(b, was) {
			t.Errorf("%+v: the answer knows of the file system", m)
		}
	}
}

// From arguments alone: the same again, whatever was asked in between.
func TestFromArgumentsAlone(t *testing.T) {
	plain := []byte(file("a", "data") + symlink("s", "..") + file("s/x", "x"))
	for _, m := range three() {
		b := mustWrap(t, plain, m)
		first := newHeld(t, 9, 99)
		want, why := first.extract(b, 1, leaving)
		for _, x := range faults(t) {
			archive.Extract(x.b, first.f.Clone(), 1, leaving)
			archive.List(x.b, 9)
		}
		archive.Pack(house(t), 1, api.Making{Style: api.Style{Form: api.Pax}, Wrap: 2, Way: 3})
		second := newHeld(t, 9, 99)
		if got, e := second.extract(b, 1, leaving); got != want || e != why || !sameImage(first.f.Image(), second.f.Image()) {
			t.Errorf("%+v %d, not %+v %d", got, e, want, why)
		}
	}
}

// Nil and empty bytes are alike, everywhere.
func TestNil(t *testing.T) {
	for _, b := range [][]byte{nil, {}, []byte("\x1f\x8b\x08 spare")[:0]} {
		if archive.Kind(b) != api.Plain {
			t.Error("Kind")
		}
		if plain, why := archive.Unwrap(b, 0); len(plain) > 0 || why != api.OK {
			t.Error(plain, why)
		}
		if l, why := archive.List(b, 0); len(l) > 0 || why != api.OK {
			t.Error(l, why)
		}
		newHeld(t, 1, 0).nothing(b, 1, api.Extraction{}, api.OK, api.OK)
		for _, m := range wrappings() {
			want := mustWrap(t, nil, m)
			if got := mustWrap(t, b, m); !bytes.Equal(got, want) {
				t.Errorf("%+v: %x", m, got)
			}
		}
	}
}
