package extract_test

import (
	"fmt"
	"math"
	"math/rand"
	"strings"
	"testing"

	"satchel/api"
	"satchel/extract"
	"satchel/field"
	"satchel/path"
	"satchel/reader"
	"satchel/vfs"
	"satchel/walk"
	"satchel/writer"
)

// P20.2 to P20.8: all archives of up to three entries of a few sorts, on a few file systems, by all policies and with little quotas.
func TestSmall(t *testing.T) {
	t.Parallel()
	list := []string{
		dir("a", 0), dir("a/a", 0o7), file("a", "x"), file("a/b", "y"), file("b", ""), symlink("b", ".."), symlink("a", "b"), hard("b", "a"), hard("a/a", "b"), device("b"),
	}
	archives := []string{""}
	for from := 0; len(archives) < 1111; {
		ahead := archives[from:]
		from = len(archives)
		for _, b := range ahead {
			for _, x := range list {
				archives = append(archives, b+x)
			}
		}
	}
	var systems []*vfs.FS
	for _, lines := range [][]string{nil, {"a/"}, {"a -> b", "b/"}, {"a", "b = a"}, {"t/", "a", "t/a/", "t/a/b = a", "t/b -> .."}} {
		f := grown(t, lines...)
		f.Forget()
		systems = append(systems, f)
	}
	for i, b := range archives {
		for j, f := range systems {
			top := 1
			if j == 4 {
				top = 2
			}
			for _, there := range ways {
				o := api.Extraction{Policy: api.Policy{There: there, Parents: (i+j)%2 == 0, Leaving: i%3 > 0}, Quota: api.Quota{Bytes: int64(1 + i%2), Entries: 3 - i%5/4, Depth: 2}}
				held{t, f.Clone()}.extract(b, top, o)
			}
		}
	}
}

func one[T any](r *rand.Rand, list ...T) T { return list[r.Intn(len(list))] }

func someMeta(r *rand.Rand) api.Meta {
	return api.Meta{Mode: uint32(r.Intn(4096)), Uid: r.Uint32(), Gid: uint32(r.Intn(9)), Time: int64(r.Intn(1 << 33)), Nano: int32(r.Intn(2) * r.Intn(1000000000))}
}

// wild is a file system that calls by chance came to, often with little room.
func wild(r *rand.Rand) *vfs.FS {
	f, _ := vfs.New(25+r.Intn(15), 15+r.Intn(60))
	name := func() string { return one(r, "a", "b", "c", "d") }
	for range 5 + r.Intn(40) {
		list := f.Image().List
		node := func() int { return list[r.Intn(len(list))].Number }
		dir := func() int {
			n := node()
			for is, _ := f.Stat(n); is.Kind != api.Dir; is, _ = f.Stat(n) {
				n = node()
			}
			return n
		}
		switch r.Intn(9) {
		case 0, 1, 2:
			f.Mkdir(dir(), name(), someMeta(r))
		case 3, 4:
			n, _ := f.Create(dir(), name(), someMeta(r))
			f.Write(n, 0, []byte(name()))
		case 5:
			f.Symlink(dir(), name(), one(r, "..", "/", "a", "../b", "a/b/c", "../../a/b"), someMeta(r))
		case 6:
			f.Link(dir(), name(), node())
		case 7:
			f.Rename(dir(), name(), dir(), name())
		case 8:
			f.Unlink(dir(), name())
		}
	}
	return f
}

// someName is a name by chance: often of something that is there, or near it.
func someName(r *rand.Rand, f *vfs.FS, top int) string {
	var parts []string
	if all := walk.All(f, top); len(all) > 0 && r.Intn(3) > 0 {
		parts = append(parts, one(r, all...).Parts...)
	}
	for range 1 + r.Intn(2) {
		parts = append(parts, one(r, "a", "b", "c", "d", "e", "."))
	}
	if r.Intn(50) == 0 {
		parts = append(parts, one(r, "..", strings.Repeat("n", 256), strings.Repeat("d/", 300), strings.Repeat("x/", 2100), ""))
	}
	if r.Intn(80) == 0 {
		return one(r, "", ".", "/", "/a", "../a")
	}
	return strings.Join(parts, "/")
}

// somePacked is an entry by chance.
func somePacked(r *rand.Rand, f *vfs.FS, top int) api.Packed {
	e := api.Entry{Name: someName(r, f, top), Kind: one(r, api.Dir, api.Dir, api.File, api.File, api.Symlink, api.HardLink), Meta: someMeta(r)}
	var data []byte
	switch e.Kind {
	case api.File:
		data = []byte(strings.Repeat("\x00", r.Intn(9)) + "some data that are there"[:r.Intn(9)])
		e.Size = int64(len(data))
	case api.Symlink:
		e.Link = one(r, someName(r, f, top), "..", "/etc", "a/../..")
	case api.HardLink:
		e.Link = someName(r, f, top)
	}
	return api.Packed{Entry: e, Data: data}
}

// told is an entry as an archive's bytes, as the writer would have them, or, if it refuses them, by long names and pairs.
func told(r *rand.Rand, x api.Packed) string {
	e := x.Entry
	if clean, why := path.Clean(e.Name); why == api.OK && clean == e.Name {
		if b, why := writer.Put(x, one(r, api.Style{Form: api.Pax, Holes: 3}, api.Style{Form: api.Pax}, api.Style{Form: api.GNU, Holes: 2}, api.Style{Form: api.Ustar})); why == api.OK {
			return string(b)
		}
	}
	letter := map[int]byte{api.Dir: '5', api.File: '7', api.Symlink: '2', api.HardLink: '1'}[e.Kind]
	b := long('L', e.Name)
	if e.Link != "" {
		b += long('K', e.Link)
	}
	return b + made(api.Header{Name: "x", Mode: int64(e.Meta.Mode), Type: letter}, string(x.Data))
}

// calm is an archive most of which nothing refuses, where there is room.
func calm(r *rand.Rand) string {
	b := ""
	name := func() string {
		return one(r, "p", "q", "p/q", "q/p", "q/r/s", "q/r", "u/v", "u/w") + fmt.Sprint(r.Intn(3))
	}
	for range 3 + r.Intn(12) {
		x := api.Packed{Entry: api.Entry{Name: name(), Kind: one(r, api.Dir, api.Dir, api.File, api.Symlink, api.HardLink), Meta: someMeta(r)}}
		switch x.Entry.Kind {
		case api.File:
			x.Data = []byte("data"[:r.Intn(5)])
			x.Entry.Size = int64(len(x.Data))
		case api.Symlink:
			x.Entry.Link = name()
		case api.HardLink:
			other := name()
			b += file(other, one(r, "", "x"))
			x.Entry.Link = other
		}
		b += told(r, x)
	}
	return b + one(r, end, end, end, long('L', "x"))
}

// someArchive is entries by chance, one behind the other, among them some that no tree has.
func someArchive(r *rand.Rand, f *vfs.FS, top int) string {
	if r.Intn(2) == 0 {
		return calm(r)
	}
	b := ""
	for range 1 + r.Intn(8) {
		switch r.Intn(60) {
		case 0:
			b += device(someName(r, f, top)[:1])
		case 1:
			b += symlink("x", "")
		case 2:
			b += oldHoles("x", one(r, int64(tooGreat), 20, math.MaxInt64), []api.Range{{From: 3, To: 5}}, "ab")
		case 3:
			b += pairs('g', "uid", "5", "mtime", "7")
		case 4:
			b += pairs('x', one(r, "uid", "gid", "size", "mtime"), one(r, "x", "9999999999", "1", strings.Repeat("9", 30)))
		case 5:
			b += made(api.Header{Name: "x", Type: 'x'}, one(r, "9 path=a\n", "09 path=a\n", "9 path=a", "9 path=a.", "9 =ath=a\n", "8 path=a\n"))
		case 6:
			b += one(r, oldHoles("x", 4, []api.Range{{From: 1, To: 2}}, "ab"), pairs('x', "GNU.sparse.major", "1", "GNU.sparse.minor", "0", "GNU.sparse.realsize", "9")+file("x", filled("9\n")))
		}
		b += told(r, somePacked(r, f, top))
	}
	return b + one(r, "", zeroRecord, end, end+"x")
}

func someExtraction(r *rand.Rand) api.Extraction {
	o := api.Extraction{
		Policy: api.Policy{There: r.Intn(3), Parents: r.Intn(3) > 0, Mask: one(r, 0, 0o22, 0o777, r.Uint32()), Leaving: r.Intn(2) == 0},
		Quota:  api.Quota{Bytes: int64(r.Intn(80)), Entries: r.Intn(12), Depth: 1 + r.Intn(5)},
	}
	if r.Intn(2) == 0 {
		o.Quota = api.Quota{Bytes: 1 << 40, Entries: 1 << 40, Depth: 1 << 40}
	}
	switch r.Intn(60) {
	case 0:
		o.Policy.There = one(r, -1, 3)
	case 1:
		o.Quota.Depth = -1
	}
	return o
}

// spoilt is an archive with bytes changed, or cut: anywhere, or in a header, with a sum that is right or not.
func spoilt(r *rand.Rand, b string) string {
	items, _, _ := reader.Read([]byte(b))
	for range 1 + r.Intn(3) {
		switch {
		case len(items) > 0 && r.Intn(2) == 0:
			if head := one(r, items...).Head; head+512 <= len(b) {
				b = summed(b, head, one(r, r.Intn(512), 156, 124+r.Intn(12), r.Intn(100)), one(r, byte(r.Intn(256)), '0', '1', '7', 'x', 'L', 0, '/', '.'))
			}
		case r.Intn(4) == 0:
			b = b[:r.Intn(len(b)+1)]
		case len(b) > 0:
			at := r.Intn(len(b))
			b = b[:at] + string([]byte{byte(r.Intn(256))}) + b[at+1:]
		}
	}
	return b
}

// P20.1 to P20.9: archives by chance, whole, cut and changed, one behind the other, on file systems by chance.
func TestChance(t *testing.T) {
	t.Parallel()
	seen := make(map[api.Errno]int)
	skipped, many := 0, 0
	for seed := range int64(1500) {
		r := rand.New(rand.NewSource(seed))
		h := held{t, wild(r)}
		top := one(r, h.f.Image().List...).Number
		if r.Intn(4) > 0 {
			top = one(r, 1, 2)
		}
		for range 6 {
			b := someArchive(r, h.f, top)
			if r.Intn(3) == 0 {
				b = spoilt(r, b)
			}
			report, _ := h.extract(b, top, someExtraction(r))
			seen[report.Cause]++
			skipped += min(report.Skipped, 1)
			many += report.Done / 4
		}
	}
	for _, cause := range []api.Errno{
		api.OK, api.ErrArg, api.ErrLong, api.ErrForm, api.ErrShort, api.ErrEmpty, api.ErrAbsolute, api.ErrDots, api.ErrName, api.ErrDeep,
		api.ErrThere, api.ErrSpace, api.ErrTarget, api.ErrNone, api.ErrInWay, api.ErrNotDir, api.ErrOutside, api.ErrDigit, api.ErrBig, api.ErrMagic, api.ErrSum,
		api.ErrLength, api.ErrKey, api.ErrRecord, api.ErrAlone, api.ErrSparse, api.ErrEntries, api.ErrDepth, api.ErrQuota, api.ErrUnsafe, api.ErrLink, api.ErrOdd,
	} {
		if seen[cause] == 0 {
			t.Errorf("never %d", cause)
		}
		delete(seen, cause)
	}
	if len(seen) > 0 {
		t.Errorf("never told of: %v", seen)
	}
	if skipped < 100 || many < 100 {
		t.Error(skipped, many)
	}
}

// P20.5 to P20.9: bytes by chance: any, and records of which the sum is right.
func TestBytes(t *testing.T) {
	t.Parallel()
	seen := make(map[api.Errno]int)
	for seed := range int64(5000) {
		r := rand.New(rand.NewSource(seed))
		b := make([]byte, one(r, r.Intn(3000), 512*r.Intn(6)))
		r.Read(b)
		if r.Intn(2) == 0 { // few bytes that mean something, in the form of records
			for i := range b {
				b[i] = one(r, byte(0), 0, 0, '0', '1', '/', '.', 'a', ' ')
			}
			for at := 0; at+512 <= len(b); at += 512 {
				copy(b[at+257:], one(r, "\x00\x00\x00\x00\x00\x00\x00\x00", "ustar\x0000", "ustar  \x00"))
				b[at+156] = "000011225553567LKxgS"[r.Intn(20)]
				for _, span := range [][2]int{{100, 24}, {124, 12}, {136, 12}, {329, 16}} {
					copy(b[at+span[0]:at+span[0]+span[1]], strings.Repeat("\x00", span[1]))
				}
				copy(b[at+124:], fmt.Sprintf("%06o", r.Intn(700)))
				name := one(r, "a", "b", "d", "up", "d/x", "in/x", "../x", "n/n") + one(r, "", "1", "2")
				copy(b[at:], name+"\x00")
				copy(b[at+157:], one(r, "f", "h", "d/g", "/", "..", "a", "a1", "b2")+"\x00")
				sum := field.PutSum([512]byte(b[at : at+512]))
				copy(b[at:], sum[:])
			}
		}
		h := held{t, house(t)}
		report, _ := h.extract(string(b), 2, api.Extraction{Policy: api.Policy{There: r.Intn(3), Parents: true, Leaving: true}, Quota: plenty})
		seen[report.Cause]++
		if !kept(h.f) {
			t.Fatalf("%q", b)
		}
	}
	if seen[api.OK] < 5 || seen[api.ErrSum] < 100 || seen[api.ErrShort] < 100 || seen[api.ErrThere]+seen[api.ErrInWay]+seen[api.ErrLink] == 0 {
		t.Error(seen)
	}
}

// P4 of the whole: what the entries say, in whichever form they are told: all styles of a list come to the same.
func TestStyles(t *testing.T) {
	styles := []api.Style{{Form: api.V7}, {Form: api.Ustar}, {Form: api.GNU}, {Form: api.Pax}, {Form: api.GNU, Holes: 1}, {Form: api.GNU, Holes: 4}, {Form: api.Pax, Holes: 1}, {Form: api.Pax, Holes: 4}}
	for seed := range int64(300) {
		r := rand.New(rand.NewSource(seed))
		f := wild(r)
		var l []api.Packed
		for range r.Intn(6) {
			x := somePacked(r, f, 1)
			x.Entry.Meta = api.Meta{Mode: x.Entry.Meta.Mode, Uid: 7, Time: 9}
			if writer.Check(x) == api.OK && len(x.Entry.Name) <= 100 && len(x.Entry.Link) <= 100 {
				l = append(l, x)
			}
		}
		o := someExtraction(r)
		var was api.Report
		var image api.Image
		for i, s := range styles {
			b, why := writer.Write(l, s)
			if why != api.OK {
				t.Fatal(why)
			}
			g := f.Clone()
			report, _ := extract.Extract(b, g, 1, o)
			report.Place = 0
			if i > 0 && (report != was || !sameImage(g.Image(), image)) {
				t.Fatalf("%+v: %+v, in the first style %+v", s, report, was)
			}
			was, image = report, g.Image()
		}
	}
}
