package archive_test

import (
	"encoding/hex"
	"fmt"
	"slices"
	"strings"
	"testing"

	"satchel/api"
	"satchel/header"
	"satchel/path"
	"satchel/vfs"
	"satchel/walk"
)

// Archives are texts here: entries, one behind the other, and an end.

var (
	zeroRecord = strings.Repeat("\x00", 512)
	end        = zeroRecord + zeroRecord
)

var plenty = api.Quota{Bytes: 1 << 30, Entries: 1000, Depth: 256}

// leaving is an extraction with plenty of room, which lets links lead out.
var leaving = api.Extraction{Policy: api.Policy{Leaving: true}, Quota: plenty}

// ways are all that a policy says of what is there.
var ways = []int{api.Keep, api.Replace, api.Skip}

// bin is bytes, told in hexadecimal.
func bin(text string) []byte {
	b, err := hex.DecodeString(strings.ReplaceAll(text, " ", ""))
	if err != nil {
		panic(err)
	}
	return b
}

// made is a header, in the form ustar if it names none, and its data.
func made(h api.Header, data string) string {
	if h.Form == 0 {
		h.Form = api.Ustar
	}
	h.Size = int64(len(data))
	r, why := header.Encode(h)
	if why != api.OK {
		panic(fmt.Sprintf("%+v: %d", h, why))
	}
	return string(r[:]) + data + strings.Repeat("\x00", (512-len(data)%512)%512)
}

func dir(name string, mode int64) string {
	return made(api.Header{Name: name, Mode: mode, Type: '5'}, "")
}

func file(name, data string) string {
	return made(api.Header{Name: name, Mode: 0o644, Type: '0'}, data)
}

func symlink(name, target string) string {
	return made(api.Header{Name: name, Mode: 0o777, Type: '2', Link: target}, "")
}

func hard(name, link string) string {
	return made(api.Header{Name: name, Mode: 0o644, Type: '1', Link: link}, "")
}

func device(name string) string {
	return made(api.Header{Name: name, Mode: 0o644, Type: '3'}, "")
}

// long is GNU's way to tell the next entry's name (L) or link (K).
func long(letter byte, text string) string {
	return made(api.Header{Form: api.GNU, Name: "././@LongLink", Type: letter}, text+"\x00")
}

// wrappings are all that bytes can be wrapped in: not at all, frames of every shape, members made in every way.
func wrappings() []api.Making {
	l := []api.Making{{Wrap: api.Plain}}
	for i := range 64 {
		l = append(l, api.Making{Wrap: api.LZ4, Shape: api.Shape{Block: 4 + i/16, Alone: i&1 > 0, BlockSums: i&2 > 0, ContentSum: i&4 > 0, ContentSize: i&8 > 0}})
	}
	for way := range 4 {
		l = append(l, api.Making{Wrap: api.Gzip, Way: way})
	}
	return l
}

// three are one wrapping of each sort, those that take the least time.
func three() []api.Making {
	return []api.Making{{Wrap: api.Plain}, {Wrap: api.LZ4, Shape: api.Shape{Block: 4, ContentSum: true}}, {Wrap: api.Gzip}}
}

// styles are all forms, without holes and with.
func styles() []api.Style {
	return []api.Style{
		{Form: api.V7}, {Form: api.Ustar}, {Form: api.GNU}, {Form: api.Pax},
		{Form: api.GNU, Holes: 1}, {Form: api.Pax, Holes: 1}, {Form: api.GNU, Holes: 7}, {Form: api.Pax, Holes: 7}, {Form: api.GNU, Holes: 600}, {Form: api.Pax, Holes: 600},
	}
}

// packings are all ways to pack.
func packings() []api.Packing {
	var l []api.Packing
	for i := range 8 {
		l = append(l, api.Packing{NoTimes: i&1 > 0, NoOwners: i&2 > 0, Apart: i&4 > 0})
	}
	return l
}

// grown is a file system that lines make, each an inode or a name, numbered from 2 on as they stand: "d/" is a directory, "s -> t" a symbolic link, "h = f" another name, any other one a file whose bytes are its name.
func grown(t *testing.T, lines ...string) *vfs.FS {
	t.Helper()
	f, _ := vfs.New(api.MaxNodes, api.MaxBytes)
	for i, line := range lines {
		m := api.Meta{Mode: uint32(i), Uid: 5, Time: int64(i)}
		name, target, isLink := strings.Cut(line, " -> ")
		name, other, isName := strings.Cut(name, " = ")
		name, isDir := strings.CutSuffix(name, "/")
		parts := strings.Split(name, "/")
		last := parts[len(parts)-1]
		place, _, why := walk.Find(f, 1, parts[:len(parts)-1])
		if why != api.OK {
			t.Fatalf("%s: %d", line, why)
		}
		node := 0
		switch {
		case isLink:
			_, why = f.Symlink(place, last, target, m)
		case isName:
			node, _, _ = walk.Find(f, 1, strings.Split(other, "/"))
			why = f.Link(place, last, node)
		case isDir:
			_, why = f.Mkdir(place, last, m)
		default:
			node, why = f.Create(place, last, m)
			f.Write(node, 0, []byte(name))
		}
		if why != api.OK {
			t.Fatalf("%s: %d", line, why)
		}
	}
	return f
}

// house is a file system with a top, "t" (2), and what lies outside of it: links in top lead out in all ways, and files have names in and outside.
func house(t *testing.T) *vfs.FS {
	return grown(t,
		"t/", "out/", "out/d/", "out/d/f", "out/f", "f", "s -> t",
		"t/d/", "t/d/e/", "t/f", "t/d/g",
		"t/up -> ..", "t/out -> ../out", "t/root -> /", "t/file -> ../f", "t/d/up -> ../..", "t/d/e/up -> ../../../out/d", "t/loop -> loop", "t/in -> d", "t/dead -> none",
		"t/h = f", "t/d/h = out/d/f", "out/h = t/d/g", "t/i = t/f", "t/d/h2 = out/d/f",
	)
}

// kept tells whether the files of house that are named outside hold what they held.
func kept(f *vfs.FS) bool {
	for name, data := range map[string]string{"f": "f", "out/f": "out/f", "out/d/f": "out/d/f", "out/h": "t/d/g"} {
		if bytesAt(f, name) != data {
			return false
		}
	}
	return names(f, at(f, "out")) == " d/ d/f f h"
}

// newHeld is an empty file system with so much room.
func newHeld(t *testing.T, nodes, bytes int) held {
	t.Helper()
	f, why := vfs.New(nodes, bytes)
	if why != api.OK {
		t.Fatal(why)
	}
	return held{t, f}
}

// with is a file system of one file of such bytes, in the root.
func with(t *testing.T, name string, data []byte) held {
	t.Helper()
	h := newHeld(t, 9, api.MaxBytes)
	node, why := h.f.Create(1, name, api.Meta{Mode: 0o644})
	if other := h.f.Write(node, 0, data); why != api.OK || other != api.OK {
		t.Fatal(why, other)
	}
	return h
}

// at is the inode that a name names; 0, if it names none.
func at(f *vfs.FS, name string) int {
	parts, why := path.Split(name)
	if why != api.OK {
		return 0
	}
	node, _, _ := walk.Find(f, 1, parts)
	return node
}

// metaOf is the meta of an inode.
func metaOf(f *vfs.FS, node int) api.Meta {
	is, _ := f.Stat(node)
	return is.Meta
}

// bytesAt is the bytes of the file that a name names, or a text that tells that there is none.
func bytesAt(f *vfs.FS, name string) string {
	b, why := f.Read(at(f, name), 0, api.MaxFile)
	if why != api.OK {
		return "no file: " + why.Error()
	}
	return string(b)
}

// names are all names in a directory, each behind a blank; a directory's ends with a slash.
func names(f *vfs.FS, top int) string {
	text := ""
	for _, x := range walk.All(f, top) {
		text += " " + strings.Join(x.Parts, "/")
		if x.Kind == api.Dir {
			text += "/"
		}
	}
	return text
}

// turned is bytes of which one is another one.
func turned(b []byte, at int, by byte) []byte {
	b = slices.Clone(b)
	b[at] ^= by
	return b
}
