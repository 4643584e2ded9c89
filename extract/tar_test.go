package extract_test

import (
	"fmt"
	"strings"
	"testing"

	"satchel/api"
	"satchel/field"
	"satchel/header"
	"satchel/path"
	"satchel/pax"
	"satchel/sparse"
	"satchel/vfs"
	"satchel/walk"
)

// Archives are texts here: entries, one behind the other, and an end.

var (
	zeroRecord = strings.Repeat("\x00", 512)
	end        = zeroRecord + zeroRecord
)

// filled is data with zeros up to whole records.
func filled(data string) string {
	return data + strings.Repeat("\x00", (512-len(data)%512)%512)
}

// made is a header, in the form ustar if it names none, and its data.
func made(h api.Header, data string) string {
	if h.Form == 0 {
		h.Form = api.Ustar
	}
	h.Size = int64(len(data))
	r, why := header.Encode(h)
	if why != api.OK {
		panic(fmt.Sprintf("%+v: %d", h, why))
	}
	return string(r[:]) + filled(data)
}

func dir(name string, mode int64) string {
	return made(api.Header{Name: name, Mode: mode, Type: '5'}, "")
}

func file(name, data string) string {
	return made(api.Header{Name: name, Mode: 0o644, Type: '0'}, data)
}

func symlink(name, target string) string {
	return made(api.Header{Name: name, Mode: 0o777, Type: '2', Link: target}, "")
}

func hard(name, link string) string {
	return made(api.Header{Name: name, Mode: 0o644, Type: '1', Link: link}, "")
}

func device(name string) string {
	return made(api.Header{Name: name, Mode: 0o644, Type: '3'}, "")
}

// long is GNU's way to tell the next entry's name (L) or link (K).
func long(letter byte, text string) string {
	return made(api.Header{Form: api.GNU, Name: "././@LongLink", Type: letter}, text+"\x00")
}

// pairs are keys and values, for the next entry (x) or for all (g).
func pairs(letter byte, texts ...string) string {
	var l []api.Pair
	for i := 0; i < len(texts); i += 2 {
		l = append(l, api.Pair{Key: texts[i], Value: texts[i+1]})
	}
	b, why := pax.Print(l)
	if why != api.OK {
		panic(why)
	}
	return made(api.Header{Name: "@PaxHeader", Mode: 0o644, Type: letter}, string(b))
}

// oldHoles is a file with holes, in GNU's old way; data are the bytes of its ranges, one behind the other.
func oldHoles(name string, size int64, l []api.Range, data string) string {
	head, why := header.Encode(api.Header{Form: api.GNU, Name: name, Mode: 0o644, Type: 'S', Size: int64(len(data))})
	r, more, e2 := sparse.PutOld(head, l, size)
	if why != api.OK || e2 != api.OK {
		panic(why + e2)
	}
	r = field.PutSum(r)
	text := string(r[:])
	for _, r := range more {
		text += string(r[:])
	}
	return text + filled(data)
}

// paxHoles is a file with holes, in pax's way.
func paxHoles(name string, size int64, l []api.Range, data string) string {
	text, why := sparse.Put(l)
	if why != api.OK {
		panic(why)
	}
	ahead := pairs('x', "GNU.sparse.major", "1", "GNU.sparse.minor", "0", "GNU.sparse.name", name, "GNU.sparse.realsize", fmt.Sprint(size))
	return ahead + file("holes", string(text)+data)
}

// grown is a file system that lines make, each an inode or a name, numbered from 2 on as they stand: "d/" is a directory, "s -> t" a symbolic link, "h = f" another name, any other one a file whose bytes are its name.
func grown(t *testing.T, lines ...string) *vfs.FS {
	t.Helper()
	f, _ := vfs.New(api.MaxNodes, api.MaxBytes)
	for i, line := range lines {
		m := api.Meta{Mode: uint32(i), Uid: 5, Time: int64(i)}
		name, target, isLink := strings.Cut(line, " -> ")
		name, other, isName := strings.Cut(name, " = ")
		name, isDir := strings.CutSuffix(name, "/")
		parts := strings.Split(name, "/")
		last := parts[len(parts)-1]
		place, _, why := walk.Find(f, 1, parts[:len(parts)-1])
		if why != api.OK {
			t.Fatalf("%s: %d", line, why)
		}
		node := 0
		switch {
		case isLink:
			_, why = f.Symlink(place, last, target, m)
		case isName:
			node, _, _ = walk.Find(f, 1, strings.Split(other, "/"))
			why = f.Link(place, last, node)
		case isDir:
			_, why = f.Mkdir(place, last, m)
		default:
			node, why = f.Create(place, last, m)
			f.Write(node, 0, []byte(name))
		}
		if why != api.OK {
			t.Fatalf("%s: %d", line, why)
		}
	}
	return f
}

// example has a directory, a symbolic link and a file.
func example(t *testing.T) *vfs.FS { return grown(t, "d/", "s -> /etc", "f") }

// house is a file system with a top, "t" (2), and what lies outside of it: links in top lead out in all ways, and files have names in and outside.
func house(t *testing.T) *vfs.FS {
	return grown(t,
		"t/", "out/", "out/d/", "out/d/f", "out/f", "f", "s -> t",
		"t/d/", "t/d/e/", "t/f", "t/d/g",
		"t/up -> ..", "t/out -> ../out", "t/root -> /", "t/file -> ../f", "t/d/up -> ../..", "t/d/e/up -> ../../../out/d", "t/loop -> loop", "t/in -> d", "t/dead -> none",
		"t/h = f", "t/d/h = out/d/f", "out/h = t/d/g", "out/d/link = t/up", "t/link = s",
	)
}

// room is a file system with room for so many more inodes and bytes.
func room(t *testing.T, f *vfs.FS, nodes, bytes int) *vfs.FS {
	t.Helper()
	image := f.Image()
	image.Nodes, image.Bytes = len(image.List)+nodes, bytes
	for _, n := range image.List {
		image.Bytes += len(n.Data)
	}
	g, why := vfs.Load(image)
	if why != api.OK {
		t.Fatal(why)
	}
	return g
}

// at is the inode that a name names; 0, if it names none.
func at(f *vfs.FS, name string) int {
	parts, why := path.Split(name)
	if why != api.OK {
		return 0
	}
	node, _, _ := walk.Find(f, 1, parts)
	return node
}

// metaAt is the meta of what a name names.
func metaAt(f *vfs.FS, name string) api.Meta {
	is, _ := f.Stat(at(f, name))
	return is.Meta
}

// bytesAt is the bytes of the file that a name names, or a text that tells that there is none.
func bytesAt(f *vfs.FS, name string) string {
	b, why := f.Read(at(f, name), 0, api.MaxFile)
	if why != api.OK {
		return "no file: " + why.Error()
	}
	return string(b)
}

// names are all names in a directory, each behind a blank; a directory's ends with a slash.
func names(f *vfs.FS, top int) string {
	text := ""
	for _, x := range walk.All(f, top) {
		text += " " + strings.Join(x.Parts, "/")
		if x.Kind == api.Dir {
			text += "/"
		}
	}
	return text
}
