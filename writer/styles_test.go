package writer_test

import (
	"bytes"
	"math"
	"slices"
	"strings"
	"testing"

	"satchel/api"
	"satchel/writer"
)

// styles are styles that can be and that can't.
func styles() []api.Style {
	var l []api.Style
	for _, form := range []int{math.MinInt, -1, 0, 1, 2, 3, 4, 5, 6, 256 + 3, math.MaxInt} {
		for _, holes := range []int{math.MinInt, -512, -1, 0, 1, 2, 100, 512, math.MaxInt} {
			l = append(l, api.Style{Form: form, Holes: holes})
		}
	}
	return l
}

// P17.1, P17.3, P17.5: every style, with entries that can be, that can't, and that do not fit.
func TestStyles(t *testing.T) {
	can := map[api.Style]bool{}
	for _, s := range []api.Style{{Form: 1}, {Form: 2}, {Form: 3}, {Form: 4}} {
		can[s] = true
	}
	for _, holes := range []int{1, 2, 100, 512, math.MaxInt} {
		can[api.Style{Form: 3, Holes: holes}], can[api.Style{Form: 4, Holes: holes}] = true, true
	}
	fine := file("a", "abc\x00\x00\x00\x00abc")
	nano := file("a", "abc")
	nano.Entry.Meta.Nano = 5
	odd := bare(api.Device)
	odd.Entry.Type = 'x'
	dots := bare(api.Dir)
	dots.Entry.Name = ".."
	long := file("a", "")
	long.Data = longest
	for _, s := range styles() {
		want := api.ErrArg
		if can[s] {
			want = api.OK
		}
		if _, why := held(t, fine, s); why != want {
			t.Errorf("%v: %d", s, why)
		}
		for _, x := range []struct {
			packed api.Packed
			why    api.Errno
		}{{odd, api.ErrOdd}, {dots, api.ErrDots}, {long, api.ErrLong}} {
			if _, why := held(t, x.packed, s); why != x.why {
				t.Errorf("%v, %.99v: %d", s, x.packed.Entry, why)
			}
		}
		if can[s] && s.Form != api.Pax {
			want = api.ErrFits
		}
		if _, why := held(t, nano, s); why != want {
			t.Errorf("%v: %d", s, why)
		}
	}
}

// P17.5: Write of none, in every style: the zeros, or ErrArg.
func TestWriteNone(t *testing.T) {
	for _, s := range styles() {
		for _, l := range [][]api.Packed{nil, {}} {
			b, why := heldWrite(t, l, s)
			if modelStyle(s) && (b != zeros(1024) || why != api.OK) || !modelStyle(s) && (b != "" || why != api.ErrArg) {
				t.Errorf("%v: %d bytes, %d", s, len(b), why)
			}
		}
	}
}

// P17.5: End is 1024 zeros, its holder's alone.
func TestEnd(t *testing.T) {
	for range 3 {
		b := writer.End()
		if !bytes.Equal(b, make([]byte, 1024)) {
			t.Fatalf("%q", b)
		}
		spoil(b, mark)
	}
}

// P17.5: of Write the error of the first entry that has one, at each place in a list.
func TestWriteErrors(t *testing.T) {
	odd := bare(api.Device)
	odd.Entry.Type = 'x'
	short := file("s", "abc")
	short.Entry.Size = 4
	fits := file("f", "")
	fits.Entry.Meta.Nano = 1
	fine := file("a", "abc")
	faults := []struct {
		packed api.Packed
		why    api.Errno
	}{{odd, api.ErrOdd}, {short, api.ErrBytes}, {fits, api.ErrFits}}
	for _, form := range []int{api.V7, api.Ustar, api.GNU} {
		for i, f := range faults {
			for n := range 4 {
				l := append(slices.Repeat([]api.Packed{fine}, n), f.packed, fine, faults[(i+1)%3].packed)
				if b, why := heldWrite(t, l, api.Style{Form: form}); b != "" || why != f.why {
					t.Errorf("form %d, %d ahead: %d, not %d", form, n, why, f.why)
				}
			}
		}
	}
	if _, why := heldWrite(t, []api.Packed{fine, fits, fine}, api.Style{Form: api.Pax}); why != api.OK {
		t.Error(why)
	}
	for _, s := range styles() {
		if modelStyle(s) {
			continue
		}
		for _, x := range []struct {
			l    []api.Packed
			want api.Errno
		}{
			{[]api.Packed{fine}, api.ErrArg},
			{[]api.Packed{fits}, api.ErrArg},
			{[]api.Packed{odd}, api.ErrOdd},
			{[]api.Packed{short, odd}, api.ErrBytes},
			{[]api.Packed{fine, odd}, api.ErrArg}, // the first entry has Put's error already
		} {
			if _, why := heldWrite(t, x.l, s); why != x.want {
				t.Errorf("%v: %d, not %d", s, why, x.want)
			}
		}
	}
}

// P17.5: a whole archive, byte by byte, as the tables of chapters 13 and 17 have it.
func TestBytes(t *testing.T) {
	x := file("d/a", "abc")
	x.Entry.Meta = api.Meta{Mode: 0o4755, Uid: 8, Gid: 0o7777777, Time: 0o12345670123}
	x.Entry.User, x.Entry.Group = "user", "group"
	l := bare(api.Symlink)
	l.Entry.Name, l.Entry.Link = "l", "../x"
	behind := func(b string, n int) string { return b + zeros(n-len(b)) }
	head := behind("d/a", 100) + "0004755\x00" + "0000010\x00" + "7777777\x00" + "00000000003\x00" + "12345670123\x00"
	link := behind("l", 100) + "0000000\x00" + "0000000\x00" + "0000000\x00" + "00000000000\x00" + "00000000000\x00"
	owners := behind("user", 32) + behind("group", 32) + "0000000\x00" + "0000000\x00"
	nobody := zeros(64) + "0000000\x00" + "0000000\x00"
	tail := "0" + zeros(100)
	for _, f := range []struct {
		form       int
		magic      string
		sum, links string
	}{
		{api.Ustar, "ustar\x0000", "011673\x00 ", "007740\x00 "},
		{api.GNU, "ustar  \x00", "011633\x00 ", "007700\x00 "},
		{api.Pax, "ustar\x0000", "011673\x00 ", "007740\x00 "},
	} {
		want := behind(head+f.sum+tail+f.magic+owners, 512) + behind("abc", 512) + behind(link+f.links+behind("2../x", 101)+f.magic+nobody, 512) + zeros(1024)
		b, why := heldWrite(t, []api.Packed{x, l}, api.Style{Form: f.form})
		if b != want || why != api.OK {
			t.Errorf("form %d: %d, %s", f.form, why, parting(b, want))
		}
	}
	x.Entry.User, x.Entry.Group = "", ""
	want := behind(head+"005240\x00 "+tail, 512) + behind("abc", 512) + behind(link+"005261\x00 "+behind("2../x", 101), 512) + zeros(1024)
	b, why := heldWrite(t, []api.Packed{x, l}, api.Style{Form: api.V7})
	if b != want || why != api.OK {
		t.Errorf("V7: %d, %s", why, parting(b, want))
	}
}

// The chapter's first three examples.
func TestExamples(t *testing.T) {
	ustar := api.Style{Form: api.Ustar}
	pax := api.Style{Form: api.Pax}
	x := file("a", "abc")
	putting(t, x, ustar, 1024, api.OK)
	putting(t, bare(api.Dir), ustar, 512, api.OK)
	x.Entry.Meta.Nano = 5
	putting(t, x, ustar, 0, api.ErrFits)
	b := putting(t, x, pax, 2048, api.OK)
	if !strings.HasPrefix(b[512:], "21 mtime=0.000000005\n\x00") || b[:10] != "@PaxHeader" || b[1024:1026] != "a\x00" || b[1536:1540] != "abc\x00" {
		t.Errorf("%q", b)
	}

	x = file(strings.Repeat("x", 101), "")
	putting(t, x, ustar, 0, api.ErrFits)
	putting(t, x, api.Style{Form: api.GNU}, 512+512+512, api.OK)
	putting(t, x, pax, 512+512+512, api.OK)
	if l, why := writer.Pairs(x, pax); !slices.Equal(l, []api.Pair{{Key: "path", Value: x.Entry.Name}}) || why != api.OK {
		t.Error(l, why)
	}

	putting(t, file("./a", ""), ustar, 0, api.ErrArg)
}
