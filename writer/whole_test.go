package writer_test

import (
	"archive/tar"
	"bytes"
	"io"
	"math/rand"
	"slices"
	"strings"
	"testing"
	"time"

	"satchel/api"
	"satchel/reader"
	"satchel/writer"
)

// chance is an entry by chance, with something that is needed now and then.
func chance(r *rand.Rand) api.Packed {
	x := bare(1 + r.Intn(5))
	text := func(most int) string { return strings.Repeat(string(rune('a'+r.Intn(26))), r.Intn(most)) }
	rarely := func() bool { return r.Intn(6) == 0 }
	e := &x.Entry
	e.Name = "n" + text(30)
	if rarely() {
		e.Name = "n" + text(254)
	}
	for range r.Intn(4) {
		e.Name = "d" + text(90) + "/" + e.Name
	}
	e.Meta.Mode = uint32(r.Intn(4096))
	e.Meta.Uid, e.Meta.Gid, e.Meta.Time = uint32(r.Intn(1000)), uint32(r.Intn(1000)), int64(r.Intn(1<<31))
	if rarely() {
		e.Meta.Uid = r.Uint32()
	}
	if rarely() {
		e.Meta.Gid = r.Uint32()
	}
	if rarely() {
		e.Meta.Time = int64(r.Uint64())
	}
	if rarely() {
		e.Meta.Nano = int32(r.Intn(1000000000))
	}
	if r.Intn(2) == 0 {
		e.User, e.Group = text(30), text(36)
	}
	if e.Link != "" {
		e.Link = "l" + text(150)
	}
	if e.Kind == api.Device {
		e.Type = "346"[r.Intn(3)]
	}
	if e.Kind == api.File {
		var data strings.Builder
		for range r.Intn(40) {
			data.WriteString(strings.Repeat("\x00", r.Intn(60)) + text(40))
		}
		x.Data, e.Size = []byte(data.String()), int64(data.Len())
	}
	if r.Intn(200) == 0 {
		e.Size++
	}
	return x
}

// P17.5 to P17.8: lists of entries by chance, in each style; those that fit are read back.
func TestChance(t *testing.T) {
	t.Parallel()
	done := map[api.Style]int{}
	seen := map[api.Errno]int{}
	holes := 0
	for seed := range 4 {
		r := rand.New(rand.NewSource(int64(seed)))
		for range 500 {
			var l []api.Packed
			for range r.Intn(7) {
				l = append(l, chance(r))
			}
			for _, s := range []api.Style{{Form: api.V7}, {Form: api.Ustar}, {Form: api.GNU}, {Form: api.GNU, Holes: 20}, {Form: api.Pax}, {Form: api.Pax, Holes: 20}} {
				b, why := heldWrite(t, l, s)
				seen[why]++
				fits := slices.DeleteFunc(slices.Clone(l), func(x api.Packed) bool {
					_, why := held(t, x, s)
					return why != api.OK
				})
				if why == api.OK && len(fits) != len(l) {
					t.Fatalf("%v: %d of %d fit", s, len(fits), len(l))
				}
				b, why = heldWrite(t, fits, s)
				if why != api.OK {
					t.Fatal(s, why)
				}
				done[s] += len(fits)
				for _, x := range heldBack(t, fits, s, b) {
					if x.Sparse {
						holes++
					}
				}
			}
		}
	}
	for s, n := range done {
		if n < 500 {
			t.Errorf("%v: %d entries", s, n)
		}
	}
	for _, why := range []api.Errno{api.OK, api.ErrFits, api.ErrBytes} {
		if seen[why] < 50 {
			t.Errorf("%d times %d", seen[why], why)
		}
	}
	if holes < 1000 {
		t.Errorf("%d files with holes", holes)
	}
}

// some is entries of every sort, as far as a form has room for them.
func some(form int) []api.Packed {
	at := func(x api.Packed, change func(*api.Entry)) api.Packed {
		change(&x.Entry)
		return x
	}
	l := []api.Packed{
		at(bare(api.Dir), func(e *api.Entry) { e.Name, e.Meta.Mode = "dir", 0o755 }),
		at(file("dir/file", strings.Repeat("data", 200)), func(e *api.Entry) { e.Meta.Uid, e.Meta.Gid, e.Meta.Time = 1000, 100, 1700000000 }),
		at(bare(api.Symlink), func(e *api.Entry) { e.Name, e.Link = "link", "dir/file" }),
		at(bare(api.HardLink), func(e *api.Entry) { e.Name, e.Link = "hard", "dir/file" }),
		at(bare(api.Device), func(e *api.Entry) { e.Name, e.Type = "pipe", '6' }),
		at(bare(api.Device), func(e *api.Entry) { e.Name, e.Type = "disk", '4' }),
		file("empty", ""),
		file("zeros", zeros(3000)),
		file("holes", "ab"+zeros(2000)+"cd"+zeros(1000)),
		file("many", strings.Repeat("many"+zeros(600), 70)),
	}
	if form > api.V7 {
		l = append(l,
			at(file("owned", "x"), func(e *api.Entry) { e.User, e.Group = "user", strings.Repeat("g", 32) }),
			file(strings.Repeat("d/", 60)+strings.Repeat("n", 80), "cut"),
		)
	}
	if form > api.Ustar {
		l = append(l,
			file(strings.Repeat("n", 200), "long"),
			at(bare(api.Symlink), func(e *api.Entry) { e.Name, e.Link = "far", strings.Repeat("../", 60) }),
			at(file(strings.Repeat("m", 200), "ab"+zeros(2000)+"cd"), func(e *api.Entry) { e.Meta.Uid, e.Meta.Gid = 1<<31, 1<<32-1 }),
			at(file("old", ""), func(e *api.Entry) { e.Meta.Time = -5 }),
		)
	}
	if form == api.Pax {
		l = append(l,
			at(file("fine", "ab"+zeros(2000)+"cd"), func(e *api.Entry) { e.Meta.Time, e.Meta.Nano = -5, 123456789 }),
			at(bare(api.Dir), func(e *api.Entry) { e.User, e.Group = strings.Repeat("u", 40), strings.Repeat("g", 33) }),
		)
	}
	return l
}

// everyStyle are the styles that can be, some of those with holes.
func everyStyle() []api.Style {
	return []api.Style{{Form: api.V7}, {Form: api.Ustar}, {Form: api.GNU}, {Form: api.GNU, Holes: 1}, {Form: api.GNU, Holes: 512}, {Form: api.Pax}, {Form: api.Pax, Holes: 1}, {Form: api.Pax, Holes: 512}}
}

// P17.5 to P17.8: entries of every sort in one archive, in every style.
func TestSome(t *testing.T) {
	for _, s := range everyStyle() {
		l := some(s.Form)
		b, why := heldWrite(t, l, s)
		if why != api.OK {
			t.Fatal(s, why)
		}
		plain, _ := heldWrite(t, l, api.Style{Form: s.Form})
		if s.Holes > 0 && len(b) >= len(plain) {
			t.Errorf("%v: %d bytes, %d without holes", s, len(b), len(plain))
		}
		one := ""
		for _, x := range l {
			own, why := held(t, x, s)
			if why != api.OK || len(own)%512 != 0 {
				t.Fatalf("%v, %.50q: %d bytes, %d", s, x.Entry.Name, len(own), why)
			}
			one += own
		}
		if b != one+zeros(1024) {
			t.Errorf("%v: not Put of each and the zeros", s)
		}
	}
}

// P17.7: an entry's bytes hang on it and the style alone: whatever was written ahead of it, and in whatever place.
func TestOneByOne(t *testing.T) {
	for _, s := range everyStyle() {
		l := some(s.Form)
		b, _ := heldWrite(t, l, s)
		slices.Reverse(l)
		back, _ := heldWrite(t, l, s)
		items, _, _ := reader.Read([]byte(b))
		again, _, _ := reader.Read([]byte(back))
		slices.Reverse(again)
		for i, x := range items {
			if b[x.From:x.Next] != back[again[i].From:again[i].Next] {
				t.Errorf("%v: %.50q", s, x.Entry.Name)
			}
		}
		if len(b) != len(back) {
			t.Errorf("%v: %d and %d bytes", s, len(b), len(back))
		}
	}
}

// P17.6: what is written here another reader reads, holes and all.
func TestReadByAnother(t *testing.T) {
	kinds := map[byte]int{tar.TypeReg: api.File, tar.TypeGNUSparse: api.File, tar.TypeDir: api.Dir, tar.TypeLink: api.HardLink, tar.TypeSymlink: api.Symlink, tar.TypeFifo: api.Device, tar.TypeBlock: api.Device}
	for _, s := range everyStyle() {
		l := some(s.Form)
		b, why := writer.Write(l, s)
		if why != api.OK {
			t.Fatal(s, why)
		}
		other := tar.NewReader(bytes.NewReader(b))
		for _, x := range l {
			h, err := other.Next()
			if err != nil {
				t.Fatalf("%v, %.50q: %v", s, x.Entry.Name, err)
			}
			e := x.Entry
			when := time.Unix(e.Meta.Time, int64(e.Meta.Nano))
			if h.Name != e.Name || kinds[h.Typeflag] != e.Kind || h.Linkname != e.Link || h.Size != e.Size || h.Mode != int64(e.Meta.Mode) ||
				h.Uid != int(e.Meta.Uid) || h.Gid != int(e.Meta.Gid) || !h.ModTime.Equal(when) || h.Uname != e.User || h.Gname != e.Group {
				t.Errorf("%v: %+v, not %+v", s, h, e)
			}
			data, err := io.ReadAll(other)
			if err != nil || !bytes.Equal(data, x.Data) {
				t.Errorf("%v, %.50q: %d bytes, %v", s, e.Name, len(data), err)
			}
		}
		if _, err := other.Next(); err != io.EOF {
			t.Errorf("%v: %v", s, err)
		}
	}
}

// The rule of memory: what one call answered is not to be seen in what another does, and the data that were handed in may be written over.
func TestMemory(t *testing.T) {
	for _, s := range everyStyle() {
		for _, x := range some(s.Form) {
			want, _ := modelPut(x, s)
			y := x
			y.Data = bytes.Clone(x.Data)
			b, _ := writer.Put(y, s)
			c, _ := writer.Put(y, s)
			all, _ := writer.Write([]api.Packed{y, y}, s)
			spoil(y.Data, mark)
			if string(b) != want || string(all) != want+want+zeros(1024) {
				t.Fatalf("%v, %.50q: it is shared with the data", s, x.Entry.Name)
			}
			spoil(b, mark)
			spoil(all, mark)
			if string(c) != want {
				t.Fatalf("%v, %.50q: two answers share", s, x.Entry.Name)
			}
			l, _ := writer.Pairs(x, s)
			m, _ := writer.Pairs(x, s)
			was := slices.Clone(m)
			spoil(l, api.Pair{Key: "spoiled"})
			if !slices.Equal(m, was) {
				t.Fatalf("%v, %.50q: two lists of pairs share", s, x.Entry.Name)
			}
		}
	}
}

// P17.5, P17.6: as many entries as a list may well have.
func TestManyEntries(t *testing.T) {
	for _, s := range everyStyle() {
		var l []api.Packed
		for range 100 {
			l = append(l, some(s.Form)...)
		}
		b, why := writer.Write(l, s)
		want, _ := modelWrite(l, s)
		if string(b) != want || why != api.OK {
			t.Fatalf("%v: %d bytes, %d", s, len(b), why)
		}
		heldBack(t, l, s, want)
	}
}

// P17.2: the places at which a beginning of a long name, or of a link, is cut are bytes; a header's name that then ends with a slash makes no directory.
func TestCutInTheMiddle(t *testing.T) {
	for n := 96; n < 104; n++ {
		name := strings.Repeat("n", n-1) + "/" + strings.Repeat("\u00e9/", 90) + strings.Repeat("\u20ac", 40)
		x := file(name, "data")
		for _, s := range []api.Style{{Form: api.GNU}, {Form: api.Pax}, {Form: api.GNU, Holes: 1}, {Form: api.Pax, Holes: 1}} {
			if _, why := held(t, x, s); why != api.OK {
				t.Errorf("%v: %d", s, why)
			}
			y := file(name, "da\x00\x00ta")
			held(t, y, s)
		}
	}
}
