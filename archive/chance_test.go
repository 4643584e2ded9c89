package archive_test

import (
	"math/rand"
	"slices"
	"strings"
	"testing"

	"satchel/api"
	"satchel/archive"
	"satchel/field"
	"satchel/frame"
	"satchel/path"
	"satchel/reader"
	"satchel/vfs"
	"satchel/walk"
	"satchel/writer"
)

func one[T any](r *rand.Rand, list ...T) T { return list[r.Intn(len(list))] }

// someMeta is a meta; a calm one fits every form.
func someMeta(r *rand.Rand, calm bool) api.Meta {
	if calm {
		return api.Meta{Mode: uint32(r.Intn(4096)), Uid: uint32(r.Intn(9)), Gid: uint32(r.Intn(9)), Time: int64(r.Intn(1 << 33))}
	}
	return api.Meta{Mode: uint32(r.Intn(4096)), Uid: r.Uint32(), Gid: r.Uint32(), Time: int64(r.Uint64() | 1), Nano: int32(r.Intn(1000000000))}
}

// someData is a file's bytes, with zeros between them.
func someData(r *rand.Rand) []byte {
	var b []byte
	for range r.Intn(4) {
		b = append(b, make([]byte, one(r, 0, 1, r.Intn(20), r.Intn(600), 512))...)
		b = append(b, one(r, "", "x", "some text", strings.Repeat("y", r.Intn(600)))...)
	}
	return b
}

// wild is a file system that calls by chance came to: with files of many names, and with numbers out of order.
func wild(r *rand.Rand, calm bool) *vfs.FS {
	f, _ := vfs.New(60, 60000)
	name := func() string {
		return one(r, "a", "b", "c", "d", "a.", "a-", "\xff", "b\n", "\x1f\x8b", "P*M\x18", strings.Repeat("n", one(r, 60, 99, 100, 101, 255)))
	}
	for range 10 + r.Intn(80) {
		list := f.Image().List
		node := func() int { return list[r.Intn(len(list))].Number }
		dir := func() int {
			n := node()
			for is, _ := f.Stat(n); is.Kind != api.Dir; is, _ = f.Stat(n) {
				n = node()
			}
			return n
		}
		switch r.Intn(12) {
		case 0, 1, 2:
			f.Mkdir(dir(), name(), someMeta(r, calm))
		case 3, 4, 5:
			n, _ := f.Create(dir(), name(), someMeta(r, calm))
			f.Write(n, 0, someData(r))
		case 6:
			f.Symlink(dir(), name(), one(r, "..", "/", "a", "../b", "a/b/c", "../../a/b", strings.Repeat("t", 101)), someMeta(r, calm))
		case 7:
			if n := node(); r.Intn(4) == 0 || kindOf(f, n) == api.File {
				f.Link(dir(), name(), n)
			}
		case 8, 9:
			f.Rename(dir(), name(), dir(), name())
		case 10:
			f.Unlink(dir(), name())
		case 11:
			f.Resize(node(), r.Intn(2000))
		}
	}
	return f
}

func kindOf(f *vfs.FS, node int) int {
	is, _ := f.Stat(node)
	return is.Kind
}

// someMaking is a making by chance, now and then one that can't be.
func someMaking(r *rand.Rand) api.Making {
	m := one(r, wrappings()...)
	if r.Intn(2) == 0 {
		m = one(r, three()...)
	}
	m.Style = one(r, styles()...)
	if r.Intn(3) == 0 {
		m.Packing = one(r, packings()...)
	}
	switch r.Intn(40) {
	case 0:
		m.Wrap = one(r, -1, 3)
	case 1:
		m.Style.Form = one(r, 0, 5)
	case 2:
		m.Shape.Block, m.Way = one(r, 3, 8), one(r, -1, 4)
	}
	return m
}

// P22.4, P22.6, P22.7; P5 of the whole: trees by chance, in all makings, from all tops: as the model has them, the same with other numbers, and alike when they are brought out.
func TestChanceTrees(t *testing.T) {
	t.Parallel()
	count, kinds, there := make(map[api.Errno]int), make(map[[2]int]int), 0
	for seed := range int64(250) {
		r := rand.New(rand.NewSource(seed))
		h := held{t, wild(r, seed%2 == 0)}
		g, numbers := renumbered(t, r, h.f)
		for range 5 {
			top := one(r, h.f.Image().List...).Number
			if r.Intn(3) > 0 {
				top = 1
			}
			m := someMaking(r)
			b, why := h.pack(top, m)
			count[why]++
			if again, e := archive.Pack(g, numbers[top], m); string(again) != string(b) || e != why {
				t.Fatalf("%+v: %s %d, not %s %d", m, sketch(again), e, sketch(b), why)
			}
			if why != api.OK {
				continue
			}
			kinds[[2]int{m.Wrap, archive.Kind(b)}]++
			list(t, b, one(r, api.MaxBlock, api.MaxBlock, len(b), r.Intn(len(b))))
			if h.back(top, b, m) {
				there++
				h.lacking(top, b)
			}
		}
	}
	for _, why := range []api.Errno{api.OK, api.ErrNotDir, api.ErrFits, api.ErrArg} {
		if count[why] < 20 {
			t.Errorf("%d times %d", count[why], why)
		}
	}
	for kind := range 3 {
		if kinds[[2]int{kind, kind}] < 50 || kinds[[2]int{0, kind}] < 1 {
			t.Error(kinds)
		}
	}
	if there < 300 {
		t.Error(there)
	}
}

// someName is a name by chance: often of something that is there, or near it.
func someName(r *rand.Rand, f *vfs.FS, top int) string {
	var parts []string
	if all := walk.All(f, top); len(all) > 0 && r.Intn(3) > 0 {
		parts = one(r, all...).Parts
		if r.Intn(4) > 0 { // something new beside it
			return strings.Join(append(slices.Clone(parts[:len(parts)-1]), one(r, "p", "q", "r")+one(r, "", "1", "2", "/p", "/q/r")), "/")
		}
	}
	for range 1 + r.Intn(2) {
		parts = append(parts, one(r, "a", "b", "c", "d", "e", "."))
	}
	if r.Intn(50) == 0 {
		return one(r, "", ".", "/", "/a", "../a", "..", "\x1f\x8b\x08", "\x04\x22\x4d\x18", "_*M\x18")
	}
	return strings.Join(parts, "/")
}

// someArchive is entries by chance, one behind the other, among them some that no tree has.
func someArchive(r *rand.Rand, f *vfs.FS, top int) string {
	b := ""
	for range r.Intn(9) {
		name, link := someName(r, f, top), someName(r, f, top)
		switch r.Intn(30) {
		case 0:
			b += device("dev")
		case 1:
			b += pairs('g', "uid", "5", "mtime", "7.25")
		case 2:
			b += pairs('x', one(r, "uid", "gid", "size", "mtime"), one(r, "x", "9999999999", "1"))
		case 3:
			b += strings.Repeat("#", 512)
		}
		x := api.Packed{Entry: api.Entry{Name: name, Kind: one(r, api.Dir, api.Dir, api.File, api.File, api.Symlink, api.HardLink), Meta: someMeta(r, false)}}
		switch x.Entry.Kind {
		case api.File:
			x.Data = someData(r)
			x.Entry.Size = int64(len(x.Data))
		case api.Symlink:
			x.Entry.Link = one(r, link, "..", "/etc", "a/../..")
		case api.HardLink:
			x.Entry.Link = link
		}
		if clean, why := path.Clean(name); why == api.OK && clean == name {
			own, _ := writer.Put(x, one(r, api.Style{Form: api.Pax, Holes: 3}, api.Style{Form: api.Pax}))
			b += string(own)
			continue
		}
		b += long('L', name) + made(api.Header{Name: "x", Type: map[int]byte{api.Dir: '5', api.File: '7', api.Symlink: '2', api.HardLink: '1'}[x.Entry.Kind], Link: "a"}, string(x.Data))
	}
	return b + one(r, "", zeroRecord, end, end, end, end+"x", long('L', "x"))
}

func someExtraction(r *rand.Rand) api.Extraction {
	o := api.Extraction{
		Policy: api.Policy{There: one(r, api.Keep, api.Replace, api.Replace, api.Skip), Parents: r.Intn(4) > 0, Mask: one(r, 0, 0o22, 0o777, r.Uint32()), Leaving: r.Intn(3) > 0},
		Quota:  api.Quota{Bytes: int64(r.Intn(3000)), Entries: r.Intn(12), Depth: 1 + r.Intn(5)},
	}
	if r.Intn(3) > 0 {
		o.Quota = plenty
	}
	switch r.Intn(50) {
	case 0:
		o.Policy.There = one(r, -1, 3)
	case 1:
		o.Quota = one(r, api.Quota{Bytes: -1}, api.Quota{Entries: -1}, api.Quota{Depth: -1})
	}
	return o
}

// spoilt is bytes with some of them changed, taken out, put in, said twice, or cut.
func spoilt(r *rand.Rand, b []byte) []byte {
	b = slices.Clone(b)
	for range 1 + r.Intn(3) {
		if len(b) == 0 {
			return []byte(one(r, "", "x", "\x1f\x8b"))
		}
		at := r.Intn(len(b))
		if r.Intn(3) == 0 {
			at = r.Intn(min(len(b), 30))
		}
		switch r.Intn(7) {
		case 0, 1, 2:
			b[at] = one(r, b[at]^1<<r.Intn(8), byte(r.Intn(256)), 0, 255)
		case 3:
			b = b[:at]
		case 4:
			b = slices.Delete(b, at, min(len(b), at+1+r.Intn(4)))
		case 5:
			b = slices.Insert(b, at, b[at:min(len(b), at+r.Intn(20))]...)
		case 6:
			b = append(b, one(r, "x", "\x00\x00", "\x00x", "more", "\x1f\x8b")...)
		}
	}
	return b
}

// someWrapped is an archive in a wrapping by chance: once, in pieces, with what is skipped, or twice.
func someWrapped(t *testing.T, r *rand.Rand, plain []byte) []byte {
	m := one(r, wrappings()...)
	if r.Intn(3) > 0 {
		m = one(r, three()...)
	}
	switch r.Intn(8) {
	case 0:
		if m.Wrap != api.Plain {
			cut := r.Intn(len(plain) + 1)
			return slices.Concat(mustWrap(t, plain[:cut], m), mustWrap(t, plain[cut:], m))
		}
	case 1:
		if m.Wrap == api.LZ4 {
			skip, _ := frame.Skip(r.Intn(16), []byte("skipped"))
			return slices.Concat(skip, mustWrap(t, plain, m), skip)
		}
	case 2:
		if r.Intn(4) == 0 {
			return mustWrap(t, mustWrap(t, plain, one(r, three()...)), m)
		}
	}
	return mustWrap(t, plain, m)
}

// P22.1 to P22.3, P22.5, P22.8, P22.9; P1 to P4 of the whole: archives by chance, in wrappings by chance, spoilt ahead of wrapping, behind it, or not at all, on file systems by chance.
func TestChanceArchives(t *testing.T) {
	t.Parallel()
	seen, causes, done := make(map[api.Errno]int), make(map[api.Errno]int), 0
	for seed := range int64(400) {
		r := rand.New(rand.NewSource(seed))
		h := held{t, wild(r, true)}
		if r.Intn(3) == 0 { // with little room
			image := h.f.Image()
			image.Nodes = len(image.List) + r.Intn(5)
			h.f, _ = vfs.Load(image)
		}
		for range 8 {
			top := one(r, h.f.Image().List...).Number
			if r.Intn(4) > 0 {
				top = 1
			}
			plain := []byte(someArchive(r, h.f, top))
			if r.Intn(5) == 0 {
				plain = spoilt(r, plain)
			}
			o := someExtraction(r)
			if modelKind(plain) == api.Plain && r.Intn(3) == 0 {
				same(t, plain, h.f, top, o, three())
			}
			b := someWrapped(t, r, plain)
			if r.Intn(4) == 0 {
				b = spoilt(r, b)
			}
			report, why := h.extract(b, top, o)
			seen[why]++
			causes[report.Cause]++
			done += report.Done
			unwrap(t, b, one(r, api.MaxBlock, len(plain), max(0, len(plain)-1), r.Intn(5000)))
			list(t, b, api.MaxBlock)
		}
	}
	for _, why := range []api.Errno{api.OK, api.ErrFormat, api.ErrUnsafer, api.ErrBlocked, api.ErrLimits, api.ErrUnknown, api.ErrNoRoom, api.ErrRefused} {
		if seen[why] < 5 {
			t.Errorf("%d times %d", seen[why], why)
		}
	}
	for _, why := range []api.Errno{api.ErrMagic, api.ErrMore, api.ErrShort, api.ErrHead, api.ErrContentSum, api.ErrCheck, api.ErrCount, api.ErrSum} {
		if causes[why] == 0 {
			t.Errorf("never %d: %v", why, causes)
		}
	}
	if done < 1000 {
		t.Error(done)
	}
}

// P22.1, P22.3, P22.5, P22.8; P1 and P6 of the whole: bytes by chance, many of them behind a magic or a head.
func TestChanceBytes(t *testing.T) {
	t.Parallel()
	seen := make(map[api.Errno]int)
	heads := []string{"", "04 22 4d 18", "04 22 4d 18 60 40 82", "04 22 4d 18 40 40 c0", "04 22 4d 18 64 70 b9", "50 2a 4d 18", "1f 8b", "1f 8b 08", "1f 8b 08 00 00 00 00 00 00 00"}
	for seed := range int64(6000) {
		r := rand.New(rand.NewSource(seed))
		b := make([]byte, r.Intn(one(r, 20, 200, 2000)))
		r.Read(b)
		if r.Intn(2) == 0 {
			for i := range b {
				b[i] = one(r, 0, 0, 0, 1, 2, 4, 255, b[i])
			}
		}
		b = slices.Concat(bin(one(r, heads...)), b)
		h := held{t, house(t)}
		report, _ := h.extract(b, 2, api.Extraction{Policy: api.Policy{There: r.Intn(3), Parents: true, Leaving: true}, Quota: plenty})
		seen[report.Cause]++
		unwrap(t, b, r.Intn(3000))
		list(t, b, r.Intn(3000))
		if !kept(h.f) {
			t.Fatalf("%q", b)
		}
	}
	for _, why := range []api.Errno{api.OK, api.ErrShort, api.ErrMagic, api.ErrVersion, api.ErrReserved, api.ErrDict, api.ErrBlock, api.ErrMethod, api.ErrFlags, api.ErrKindOf, api.ErrStored, api.ErrLengths, api.ErrWord, api.ErrDistance, api.ErrCheck} {
		if seen[why] == 0 {
			t.Errorf("never %d: %v", why, seen)
		}
	}
}

// P22.8: records by chance, of which the sum is right, in every sort of wrapping.
func TestChanceRecords(t *testing.T) {
	t.Parallel()
	seen := make(map[api.Errno]int)
	for seed := range int64(1500) {
		r := rand.New(rand.NewSource(seed))
		b := []byte(someArchive(r, house(t), 2))
		items, _, _ := reader.Read(b)
		for range 1 + r.Intn(3) {
			if len(items) == 0 {
				break
			}
			head := b[one(r, items...).Head:]
			head[one(r, r.Intn(512), 156, 124+r.Intn(12), r.Intn(100))] = one(r, byte(r.Intn(256)), '0', '1', '7', 'x', 'L', 0, '/', '.')
			sum := field.PutSum([512]byte(head[:512]))
			copy(head, sum[:])
		}
		if modelKind(b) == api.Plain {
			_, why := same(t, b, house(t), 2, someExtraction(r), three())
			seen[why]++
		}
	}
	if seen[api.OK] < 50 || seen[api.ErrFormat] < 50 || seen[api.ErrBlocked] < 50 || seen[api.ErrUnsafer] < 10 {
		t.Error(seen)
	}
}
