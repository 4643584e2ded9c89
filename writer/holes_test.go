package writer_test

import (
	"fmt"
	"math"
	"slices"
	"strings"
	"testing"

	"satchel/api"
	"satchel/reader"
	"satchel/writer"
)

// holing holds a file, written with so many zeros as a hole in both forms, to its map; one that is none is written as without holes.
func holing(t *testing.T, data string, least int, places ...int64) {
	t.Helper()
	heldHoles(t, data, least, true, places)
}

// whole holds a file to be none with holes, though holes are asked for.
func whole(t *testing.T, data string, least int) {
	t.Helper()
	heldHoles(t, data, least, false, nil)
}

func heldHoles(t *testing.T, data string, least int, holed bool, places []int64) {
	t.Helper()
	var want []api.Range
	for pair := range slices.Chunk(places, 2) {
		want = append(want, api.Range{From: pair[0], To: pair[1]})
	}
	for _, form := range []int{api.GNU, api.Pax} {
		x := file("dir/file", data)
		s := api.Style{Form: form, Holes: least}
		b, why := held(t, x, s)
		if why != api.OK {
			t.Fatalf("%v: %d", s, why)
		}
		item := heldBack(t, []api.Packed{x}, s, b+zeros(1024))[0]
		if item.Sparse != holed || !slices.Equal(item.Map, want) {
			t.Errorf("%v, %.50q: %t %v, not %t %v", s, data, item.Sparse, item.Map, holed, want)
		}
		plain, _ := held(t, x, api.Style{Form: form})
		if !holed && b != plain {
			t.Errorf("%v, %.50q: not as without holes", s, data)
		}
		heldFewer(t, x, s)
	}
}

// heldFewer holds a file to P17.8: with holes there are no more bytes of data than without, but for the map.
func heldFewer(t *testing.T, x api.Packed, s api.Style) {
	t.Helper()
	b, _ := writer.Write([]api.Packed{x}, s)
	l, _, _ := reader.Read(b)
	var n int64
	for _, r := range l[0].Map {
		n += r.To - r.From
	}
	if l[0].Sparse && n >= x.Entry.Size || !l[0].Sparse && l[0].Held != x.Entry.Size {
		t.Errorf("%v: %d bytes of %d are held", s, n, x.Entry.Size)
	}
}

// P17.3, P17.4, P17.8: the chapter's fourth example, and DOC.md's sixth.
func TestHolesExamples(t *testing.T) {
	data := "12345" + zeros(2000) + "67890"
	pax := api.Style{Form: api.Pax, Holes: 100}
	x := file("h", data)
	pairing(t, x, pax, "GNU.sparse.major", "1", "GNU.sparse.minor", "0", "GNU.sparse.name", "h", "GNU.sparse.realsize", "2010")
	b := putting(t, x, pax, 512+512+512+512+512, api.OK)
	text := "22 GNU.sparse.major=1\n22 GNU.sparse.minor=0\n21 GNU.sparse.name=h\n28 GNU.sparse.realsize=2010\n"
	if b[512:1024] != filled(text) || b[1024:1026] != "h\x00" || b[1024+124:1024+136] != "00000001012\x00" || b[1024+156] != '0' {
		t.Errorf("%q", b[:1536])
	}
	if b[1536:] != filled("2\n0\n5\n2005\n5\n")+filled("1234567890") {
		t.Errorf("%q", b[1536:])
	}

	x = file("h", "1234567890"+zeros(2000)+"1234567890")
	putting(t, x, api.Style{Form: api.GNU}, 2560, api.OK)
	gnu := api.Style{Form: api.GNU, Holes: 100}
	b = putting(t, x, gnu, 1024, api.OK)
	pairing(t, x, gnu)
	if b[156] != 'S' || b[124:136] != "00000000024\x00" || b[257:265] != "ustar  \x00" {
		t.Errorf("%q", b[:512])
	}
	slots := "00000000000\x0000000000012\x00" + "00000003732\x0000000000012\x00"
	if b[386:512] != slots+zeros(48)+"\x00"+"00000003744\x00"+zeros(17) || b[512:] != filled("12345678901234567890") {
		t.Errorf("%q", b[386:])
	}
	holing(t, data, 100, 0, 5, 2005, 2010)
}

// 17.2: files with no bytes, with zeros alone, with none; holes shorter than, as long as and longer than Holes, at the beginning, in the middle and at the end.
func TestHoles(t *testing.T) {
	whole(t, "", 1)
	whole(t, "", math.MaxInt)
	for _, n := range []int{1, 2, 511, 512, 513, 5000} {
		full := strings.Repeat("d", n)
		whole(t, full, 1)
		whole(t, full, n)
		whole(t, full, math.MaxInt)
		holing(t, zeros(n), 1)
		holing(t, zeros(n), n)
		whole(t, zeros(n), n+1)
		whole(t, zeros(n), math.MaxInt)
	}
	for _, n := range []int64{1, 2, 100, 512, 1000} {
		hole := zeros(int(n))
		for least := max(n-1, 1); least <= n; least++ {
			holing(t, hole+"ab", int(least), n, n+2)
			holing(t, "ab"+hole, int(least), 0, 2)
			holing(t, "ab"+hole+"cd", int(least), 0, 2, n+2, n+4)
			holing(t, hole+"ab"+hole+"cd"+hole, int(least), n, n+2, 2*n+2, 2*n+4)
		}
		whole(t, hole+"ab", int(n)+1)
		whole(t, "ab"+hole, int(n)+1)
		whole(t, "ab"+hole+"cd", int(n)+1)
		whole(t, hole+"ab"+hole+"cd"+hole, int(n)+1)
		holing(t, hole+"ab"+hole+"\x00cd"+hole, int(n)+1, 0, n+2, 2*n+3, 3*n+5)
	}
	holing(t, "a\x00b\x00\x00c\x00\x00\x00d", 2, 0, 3, 5, 6, 9, 10)
}

// apart is n letters, a zero between each two.
func apart(n int) string {
	return strings.Repeat("d\x00", n)[:2*n-1]
}

// 17.2: as many ranges as a record's map holds, and one more, record by record.
func TestManyRanges(t *testing.T) {
	for _, n := range []int{2, 3, 4, 5, 6, 24, 25, 26, 45, 46, 47, 67, 68, 500} {
		data := apart(n)
		var places []int64
		for i := range int64(n) {
			places = append(places, 2*i, 2*i+1)
		}
		holing(t, data, 1, places...)
		holing(t, data+"\x00", 1, places...)
		b, _ := writer.Put(file("f", data), api.Style{Form: api.GNU, Holes: 1})
		further := max(0, n-4+20) / 21
		if len(b) != 512+512*further+(n+511)/512*512 {
			t.Errorf("%d ranges: %d bytes", n, len(b))
		}
	}
}

// 17.2: MaxRanges ranges, and one more, which is no file with holes.
func TestMostRanges(t *testing.T) {
	for _, x := range []struct {
		n     int
		holed bool
	}{{65535, true}, {65536, true}, {65537, false}, {70000, false}} {
		for _, form := range []int{api.GNU, api.Pax} {
			s := api.Style{Form: form, Holes: 1}
			y := file("f", apart(x.n))
			b, why := held(t, y, s)
			l, _, _ := reader.Read([]byte(b))
			if why != api.OK || len(l) != 1 || l[0].Sparse != x.holed {
				t.Fatalf("%d ranges: %d", x.n, why)
			}
			if !x.holed && len(b) != 512+len(filled(string(y.Data))) {
				t.Errorf("%d ranges: %d bytes", x.n, len(b))
			}
			heldFewer(t, y, s)
		}
	}
}

// 17.2: holes are asked for, and there is something else than a file; nothing is another one then.
func TestHolesOfOthers(t *testing.T) {
	for _, form := range []int{api.GNU, api.Pax} {
		for _, kind := range []int{api.Dir, api.Symlink, api.HardLink, api.Device} {
			plain, _ := held(t, bare(kind), api.Style{Form: form})
			if b, why := held(t, bare(kind), api.Style{Form: form, Holes: 1}); b != plain || why != api.OK {
				t.Errorf("form %d, kind %d: %d", form, kind, why)
			}
		}
	}
}

// 17.2, P17.2 to P17.4: files with holes with everything else that can be needed: names that can be cut and that can't, owners, times.
func TestHolesAndNeeds(t *testing.T) {
	data := "ab" + zeros(600) + "cd"
	for _, name := range []string{"n", strings.Repeat("n", 100), strings.Repeat("n", 101), strings.Repeat("d/", 50) + "n", strings.Repeat("d/", 99) + "n", strings.Repeat("d/", 200) + "n"} {
		for _, meta := range []api.Meta{{Mode: 0o777}, {Nano: 1}, {Uid: 1 << 30, Gid: 1 << 31}, {Time: -5}, {Time: 1 << 40}} {
			for _, user := range []string{"", "u", strings.Repeat("u", 33)} {
				x := file(name, data)
				x.Entry.Meta, x.Entry.User, x.Entry.Group = meta, user, user
				for _, form := range []int{api.GNU, api.Pax} {
					want := api.OK
					if form == api.GNU && (meta.Nano != 0 || len(user) > 32) {
						want = api.ErrFits
					}
					if _, why := held(t, x, api.Style{Form: form, Holes: 512}); why != want {
						t.Errorf("form %d, %.20q, %v: %d", form, name, meta, why)
					}
				}
			}
		}
	}
	// A name that can be cut is cut: the pair GNU.sparse.name is there, and path is not.
	name := strings.Repeat("d/", 50) + strings.Repeat("n", 60)
	x := file(name, data)
	pairing(t, x, api.Style{Form: api.Pax, Holes: 512}, "GNU.sparse.major", "1", "GNU.sparse.minor", "0", "GNU.sparse.name", name, "GNU.sparse.realsize", "604")
	b, _ := held(t, x, api.Style{Form: api.Pax, Holes: 512})
	own := b[1024:]
	if own[:61] != name[100:]+"\x00" || own[345:345+100] != name[:99]+"\x00" {
		t.Errorf("%q", own[:512])
	}
}

// P17.6, P17.8: all files of up to seven bytes that are zeros or not, with each Holes.
func TestSmallHoles(t *testing.T) {
	for n := range 8 {
		for choice := range 1 << n {
			data := ""
			for i := range n {
				data += fmt.Sprintf("%c", "\x00d"[choice>>i&1])
			}
			for least := 1; least < 5; least++ {
				for _, form := range []int{api.GNU, api.Pax} {
					s := api.Style{Form: form, Holes: least}
					held(t, file("f", data), s)
					heldFewer(t, file("f", data), s)
				}
			}
		}
	}
}
