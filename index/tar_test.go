package index_test

import (
	"fmt"
	"slices"
	"strings"

	"satchel/api"
	"satchel/field"
	"satchel/header"
	"satchel/pax"
	"satchel/sparse"
)

// Archives are texts here: entries, one behind the other, and an end.

var (
	zeroRecord = strings.Repeat("\x00", 512)
	end        = zeroRecord + zeroRecord
)

// filled is data with zeros up to whole records.
func filled(data string) string {
	return data + strings.Repeat("\x00", (512-len(data)%512)%512)
}

// made is a header, in the form ustar if it names none, and its data.
func made(h api.Header, data string) string {
	if h.Form == 0 {
		h.Form = api.Ustar
	}
	h.Size = int64(len(data))
	r, why := header.Encode(h)
	if why != api.OK {
		panic(fmt.Sprintf("%+v: %d", h, why))
	}
	return string(r[:]) + filled(data)
}

func dir(name string) string {
	return made(api.Header{Name: name, Mode: 0o755, Type: '5'}, "")
}

func file(name, data string) string {
	return made(api.Header{Name: name, Mode: 0o644, Type: '0'}, data)
}

func symlink(name, target string) string {
	return made(api.Header{Name: name, Mode: 0o777, Type: '2', Link: target}, "")
}

func hard(name, link string) string {
	return made(api.Header{Name: name, Mode: 0o644, Type: '1', Link: link}, "")
}

func device(name string) string {
	return made(api.Header{Name: name, Mode: 0o644, Type: '3'}, "")
}

// long is GNU's way to tell the next entry's name (L) or link (K).
func long(letter byte, text string) string {
	return made(api.Header{Form: api.GNU, Name: "././@LongLink", Type: letter}, text+"\x00")
}

// pairs are keys and values, for the next entry (x) or for all (g).
func pairs(letter byte, texts ...string) string {
	var l []api.Pair
	for i := 0; i < len(texts); i += 2 {
		l = append(l, api.Pair{Key: texts[i], Value: texts[i+1]})
	}
	b, why := pax.Print(l)
	if why != api.OK {
		panic(why)
	}
	return made(api.Header{Name: "@PaxHeader", Mode: 0o644, Type: letter}, string(b))
}

// named is an entry with a name that need not be safe, and may be empty.
func named(name string, h api.Header, data string) string {
	return pairs('x', "path", name) + made(h, data)
}

// oldHoles is a file with holes, in GNU's old way; data are the bytes of its ranges, one behind the other.
func oldHoles(name string, size int64, l []api.Range, data string) string {
	head, why := header.Encode(api.Header{Form: api.GNU, Name: name, Mode: 0o644, Type: 'S', Size: int64(len(data))})
	r, more, e2 := sparse.PutOld(head, l, size)
	if why != api.OK || e2 != api.OK {
		panic(why + e2)
	}
	r = field.PutSum(r)
	text := string(r[:])
	for _, r := range more {
		text += string(r[:])
	}
	return text + filled(data)
}

// paxHoles is a file with holes, in pax's way.
func paxHoles(name string, size int64, l []api.Range, data string) string {
	text, why := sparse.Put(l)
	if why != api.OK {
		panic(why)
	}
	ahead := pairs('x', "GNU.sparse.major", "1", "GNU.sparse.minor", "0", "GNU.sparse.name", name, "GNU.sparse.realsize", fmt.Sprint(size))
	return ahead + file("holes", string(text)+data)
}

// turned is bytes of which one is another one.
func turned(b []byte, at int, by byte) []byte {
	b = slices.Clone(b)
	b[at] ^= by
	return b
}

// example is the archive of the chapter's first example.
func example() string {
	return dir("a") + file("a/f", "x") + hard("h", "a/f") + file("a/f", "yy") + end
}

// motley is an archive of all kinds, in all forms, with all that tells of entries.
func motley() string {
	return pairs('g', "uname", "everybody") +
		dir("a/") + file("a/f", "first") + long('L', strings.Repeat("long/", 50)+"name") + file("short", strings.Repeat("text ", 300)) +
		made(api.Header{Form: api.V7, Name: "a/g", Type: '0'}, "old") + made(api.Header{Form: api.V7, Name: "a/d/", Type: '0'}, "") +
		symlink("a/s", "../..") + hard("a/h", "./a//f") + device("a/dev") + hard("a/h2", "a/h") +
		oldHoles("holes", 3000, []api.Range{{From: 5, To: 10}, {From: 2000, To: 2003}}, "12345678") +
		paxHoles("a/holes", 700, []api.Range{{From: 600, To: 700}}, strings.Repeat("d", 100)) +
		file("a/f", "second") + pairs('x', "mtime", "5.5", "path", "../out") + pairs('g', "gname", "all") + file("x", "out") +
		long('K', "a/holes") + hard("b", "x") + file("empty", "") + hard("a/f", "a/f") + symlink("l", "a/f") + hard("toward", "l") + hard("none", "nothing") +
		dir("a//d/.") + made(api.Header{Name: "./a/./f/", Type: '7'}, "third") + hard("h", "a/f") + end
}

// cases are archives that end well.
func cases() []string {
	return []string{
		"", end, zeroRecord, example(), motley(),
		file("a", "data") + file("b", ""),
		file("a", "data") + zeroRecord + "whatever stands here",
		pairs('g', "uname", "x") + pairs('g', "gname", "y") + end,
		hard("a", "a") + hard("a", "a") + end,
	}
}
