package archive_test

import (
	"bytes"
	"compress/gzip"
	"io"
	"math"
	"slices"
	"strings"
	"testing"

	"satchel/api"
	"satchel/archive"
	"satchel/frame"
	packed "satchel/gzip"
)

// P22.1: bytes that are empty, shorter than a magic, that begin as one, and that nearly do.
func TestKind(t *testing.T) {
	for text, want := range map[string]int{
		"":                        api.Plain,
		"00":                      api.Plain,
		"04":                      api.Plain,
		"04 22":                   api.Plain,
		"04 22 4d":                api.Plain,
		"04 22 4d 18":             api.LZ4,
		"04 22 4d 18 00":          api.LZ4,
		"04 22 4d 19":             api.Plain,
		"18 4d 22 04":             api.Plain,
		"00 04 22 4d 18":          api.Plain,
		"50":                      api.Plain,
		"50 2a":                   api.Plain,
		"50 2a 4d":                api.Plain,
		"50 2a 4d 18":             api.LZ4,
		"5f 2a 4d 18 00 00 00 00": api.LZ4,
		"4f 2a 4d 18":             api.Plain,
		"60 2a 4d 18":             api.Plain,
		"02 21 4c 18":             api.Plain,
		"1f":                      api.Plain,
		"1f 8b":                   api.Gzip,
		"1f 8b 08":                api.Gzip,
		"1f 8b 00 ff":             api.Gzip,
		"1f 8c 08":                api.Plain,
		"1e 8b 08":                api.Plain,
		"8b 1f":                   api.Plain,
		"1f 1f 8b":                api.Plain,
	} {
		if got := archive.Kind(bin(text)); got != want {
			t.Errorf("Kind(%s): %d, not %d", text, got, want)
		}
	}
	if archive.Kind(nil) != api.Plain {
		t.Error("nil")
	}
}

// P22.1: all bytes in the places of a magic's, one by one and in pairs; and what lent room holds behind the bytes plays no part.
func TestKindOfEveryByte(t *testing.T) {
	for _, magic := range []string{"04 22 4d 18", "50 2a 4d 18", "5f 2a 4d 18", "1f 8b 08 00"} {
		for n := range 1 << 16 {
			for _, places := range [][2]int{{0, 1}, {1, 2}, {2, 3}, {0, 3}} {
				b := bin(magic)
				b[places[0]], b[places[1]] = byte(n), byte(n>>8)
				if got := archive.Kind(b); got != modelKind(b) {
					t.Fatalf("Kind(%x): %d", b, got)
				}
			}
		}
		for n := range 4 {
			b := bin(magic)
			if got := archive.Kind(b[:n]); got != modelKind(slices.Clip(b[:n])) {
				t.Errorf("Kind(%x), with room: %d", b[:n], got)
			}
		}
	}
}

// P22.1: of frames and members of every sort, and of what isn't wrapped.
func TestKindOfWrapped(t *testing.T) {
	for _, plain := range []string{"", "a", end, file("a", "data") + end, "\x1f\x8b\x08", "\x04\x22\x4d\x18"} {
		for _, m := range wrappings() {
			want := m.Wrap
			if want == api.Plain {
				want = modelKind([]byte(plain))
			}
			if got := archive.Kind(mustWrap(t, []byte(plain), m)); got != want {
				t.Errorf("%.9q in %+v: %d", plain, m, got)
			}
		}
		for user := range 16 {
			if b, _ := frame.Skip(user, []byte(plain)); archive.Kind(b) != api.LZ4 {
				t.Error(user)
			}
		}
	}
}

// magics are names that begin as something wrapped does, and what that is.
func magics() map[string]int {
	l := map[string]int{"\x1f\x8b": api.Gzip, "\x1f\x8b\x08 a name": api.Gzip, "\x04\x22\x4d\x18": api.LZ4, "\x04\x22M\x18name": api.LZ4}
	for _, first := range "PQRSTUVWXYZ[\\]^_" {
		l[string(first)+"*M\x18name"] = api.LZ4
	}
	return l
}

// P22.1, P22.3, P22.6: an archive that isn't wrapped, and the first name of which begins as a magic, is taken for what it isn't; wrapped it is not.
func TestNamesLikeMagics(t *testing.T) {
	causes := make(map[api.Errno]int)
	for name, kind := range magics() {
		for _, s := range styles() {
			h := held{t, grown(t, name, name+"-")}
			for _, m := range three() {
				m.Style = s
				b := h.mustPack(1, m)
				g := newHeld(t, 9, 999)
				if m.Wrap != api.Plain {
					g.comes(b, 1, leaving, api.Report{Done: 2, Bytes: int64(2*len(name) + 1), Place: 2048}, api.OK)
					continue
				}
				if archive.Kind(b) != kind || reads(b) != kind {
					t.Fatalf("%q, %+v: %d", name, s, archive.Kind(b))
				}
				report, _ := g.extract(b, 1, leaving)
				causes[report.Cause]++
				g.nothing(b, 1, leaving, report.Cause, api.ErrFormat)
			}
		}
	}
	if causes[api.OK] > 0 || len(causes) < 3 {
		t.Error(causes)
	}
	// With something ahead of the name it isn't the first bytes: it is what it is.
	far := "\x1f\x8b\x08" + strings.Repeat("n", 120)
	h := held{t, grown(t, far)}
	for _, form := range []int{api.GNU, api.Pax} {
		b := h.mustPack(1, api.Making{Style: api.Style{Form: form}})
		g := newHeld(t, 9, 999)
		g.comes(b, 1, leaving, api.Report{Done: 1, Bytes: 123, Place: len(b) - 1024}, api.OK)
	}
}

// reads is which of the two layers takes bytes for its own, by the fault that it finds in them; api.Plain: none of the two.
func reads(b []byte) int {
	if _, _, why := frame.Decode(b, api.MaxBlock); why != api.ErrMagic {
		return api.LZ4
	}
	if _, _, why := packed.Decode(b, api.MaxBlock); why != api.ErrMagic {
		return api.Gzip
	}
	return api.Plain
}

// P22.1: most out of its range is refused ahead of all else; and how few it must not be.
func TestUnwrapMost(t *testing.T) {
	hard := make([]byte, 3000)
	for i := range hard {
		hard[i] = byte(i * i >> 4)
	}
	for _, m := range wrappings() {
		for _, plain := range [][]byte{nil, {'a'}, []byte(strings.Repeat("ab", 1000)), hard} {
			b := mustWrap(t, plain, m)
			n := len(plain)
			for _, x := range []struct {
				most int
				why  api.Errno
			}{
				{math.MinInt, api.ErrArg}, {-1, api.ErrArg}, {api.MaxBlock + 1, api.ErrArg}, {math.MaxInt, api.ErrArg},
				{n, api.OK}, {n + 1, api.OK}, {api.MaxBlock - 1, api.OK}, {api.MaxBlock, api.OK},
				{n - 1, api.ErrPlain}, {n / 2, api.ErrPlain}, {0, api.ErrPlain},
			} {
				want := x.why
				switch {
				case n == 0 && x.most == -1:
					want = api.ErrArg
				case n == 0 && x.most == 0:
					want = api.OK
				}
				got, why := unwrap(t, b, x.most)
				if why != want || why == api.OK && !bytes.Equal(got, plain) {
					t.Errorf("%d in %+v, at most %d: %s %d, not %d", n, m, x.most, brief(got), why, want)
				}
			}
		}
		for _, broken := range [][]byte{[]byte("x"), bin("04 22 4d 18 ff"), bin("1f 8b 07")} {
			for _, most := range []int{math.MinInt, -1, api.MaxBlock + 1, math.MaxInt} {
				if _, why := unwrap(t, broken, most); why != api.ErrArg {
					t.Errorf("%x, at most %d: %d", broken, most, why)
				}
			}
		}
	}
}

// P22.1: as many plain bytes as there may be at all.
func TestUnwrapMuch(t *testing.T) {
	t.Parallel()
	whole := bytes.Repeat([]byte("0123456789abcdef"), api.MaxBlock/16)
	for _, m := range append(three(), api.Making{Wrap: api.LZ4, Shape: api.Shape{Block: 7, Alone: true, ContentSize: true}}, api.Making{Wrap: api.Gzip, Way: 1}) {
		b := mustWrap(t, whole, m)
		if plain, why := unwrap(t, b, api.MaxBlock); why != api.OK || !bytes.Equal(plain, whole) {
			t.Errorf("%+v: %d bytes, %d", m, len(plain), why)
		}
		if _, why := unwrap(t, b, api.MaxBlock-1); why != api.ErrPlain {
			t.Errorf("%+v: %d", m, why)
		}
		if m.Wrap == api.Plain {
			b = append(b, 'x')
		} else {
			b = slices.Concat(b, mustWrap(t, []byte("x"), m))
		}
		if _, why := unwrap(t, b, api.MaxBlock); why != api.ErrPlain {
			t.Errorf("%+v, and one byte more: %d", m, why)
		}
	}
}

// P22.1: all plain bytes of all frames or members, with what stands between and behind them; each wrapping is taken off once.
func TestUnwrapMany(t *testing.T) {
	z, g := three()[1], three()[2]
	skip, _ := frame.Skip(9, []byte("skipped"))
	one, two := mustWrap(t, []byte("one"), z), mustWrap(t, []byte("two"), api.Making{Wrap: api.LZ4, Shape: api.Shape{Block: 7, BlockSums: true}})
	mone, mtwo := mustWrap(t, []byte("one"), g), mustWrap(t, []byte("two"), api.Making{Wrap: api.Gzip, Way: 3})
	named, _ := packed.Encode([]byte("said"), api.Member{Name: "n", Comment: "c", Extra: []byte("e"), Time: 7, Sum: true, Text: true}, 2)
	for _, x := range []struct {
		b    []byte
		want string
		why  api.Errno
	}{
		{slices.Concat(one, two), "onetwo", api.OK},
		{slices.Concat(skip, two, skip, skip, one, skip), "twoone", api.OK},
		{skip, "", api.OK},
		{slices.Concat(one, []byte("xy")), "", api.ErrShort},
		{slices.Concat(one, []byte("wxyz")), "", api.ErrMagic},
		{slices.Concat(one, mone), "", api.ErrMagic},
		{slices.Concat(one, make([]byte, 4)), "", api.ErrMagic},
		{slices.Concat(mone, mtwo, named), "onetwosaid", api.OK},
		{slices.Concat(named, mone, make([]byte, 9)), "saidone", api.OK},
		{slices.Concat(mone, []byte("x")), "", api.ErrMore},
		{slices.Concat(mone, one), "", api.ErrMore},
		{mustWrap(t, mone, z), string(mone), api.OK},
		{mustWrap(t, one, g), string(one), api.OK},
		{mustWrap(t, mone, g), string(mone), api.OK},
		{mustWrap(t, skip, z), string(skip), api.OK},
		{[]byte("not wrapped"), "not wrapped", api.OK},
		{slices.Concat([]byte{0}, one), "\x00" + string(one), api.OK},
	} {
		if got, why := unwrap(t, x.b, api.MaxBlock); string(got) != x.want || why != x.why {
			t.Errorf("%x: %q %d, not %q %d", x.b, got, why, x.want, x.why)
		}
	}
}

// P22.1: bytes that are cut anywhere: what is shorter than a magic isn't wrapped, and nothing else can be read.
func TestUnwrapCut(t *testing.T) {
	plain := []byte(strings.Repeat("a text that is told twice, ", 2) + "\x80\x81\x82")
	for _, m := range wrappings() {
		b := mustWrap(t, plain, m)
		for cut := range len(b) {
			got, why := unwrap(t, b[:cut], len(plain))
			short := m.Wrap == api.Plain || cut < 2 || m.Wrap == api.LZ4 && cut < 4
			switch {
			case short && (why != api.OK || !bytes.Equal(got, b[:cut])):
				t.Fatalf("%+v, cut at %d: %s %d", m, cut, brief(got), why)
			case !short && why != api.ErrShort:
				t.Fatalf("%+v, cut at %d: %s %d", m, cut, brief(got), why)
			}
		}
	}
}

// P22.1: bytes that are spoilt anywhere: where there are sums, nothing else than was wrapped can come of it.
func TestUnwrapSpoilt(t *testing.T) {
	plain := []byte(strings.Repeat("a text that is told twice, ", 2) + "\x80\x81\x82")
	for _, m := range wrappings() {
		b := mustWrap(t, plain, m)
		refused := 0
		for at := range b {
			for _, by := range []byte{1, 2, 4, 8, 16, 32, 64, 128, 255} {
				spoilt := turned(b, at, by)
				for _, most := range []int{len(plain), api.MaxBlock} {
					got, why := unwrap(t, spoilt, most)
					if why != api.OK {
						refused++
						continue
					}
					summed := m.Wrap == api.LZ4 && m.Shape.ContentSum || m.Wrap == api.Gzip
					if summed && archive.Kind(spoilt) == m.Wrap && !bytes.Equal(got, plain) {
						t.Fatalf("%+v, %d turned by %d: %q", m, at, by, got)
					}
				}
			}
		}
		if m.Wrap != api.Plain && refused == 0 {
			t.Errorf("%+v: nothing was refused", m)
		}
	}
}

// fault is bytes that can't be unwrapped, and why.
type fault struct {
	name string
	b    []byte
	why  api.Errno
}

// faults are bytes with each error of unwrapping that does not hang on how many bytes there may be.
func faults(t *testing.T) []fault {
	t.Helper()
	sums := mustWrap(t, []byte("a"), api.Making{Wrap: api.LZ4, Shape: api.Shape{Block: 4, BlockSums: true, ContentSum: true}})
	size := mustWrap(t, nil, api.Making{Wrap: api.LZ4, Shape: api.Shape{Block: 4, ContentSize: true}})
	twisted := mustWrap(t, []byte("a"), api.Making{Wrap: api.LZ4, Shape: api.Shape{Block: 4, ContentSize: true}})
	member := mustWrap(t, []byte("a"), three()[2])
	summed, _ := packed.Encode(nil, api.Member{Sum: true}, 0)
	head := "1f 8b 08 00 00 00 00 00 00 00 "
	return []fault{
		{"a frame's magic alone", bin("04 22 4d 18"), api.ErrShort},
		{"a skipped frame's magic alone", bin("5a 2a 4d 18"), api.ErrShort},
		{"a skipped frame, cut", bin("50 2a 4d 18 02 00 00 00 78"), api.ErrShort},
		{"no magic behind a frame", append(slices.Clone(size), "wxyz"...), api.ErrMagic},
		{"the version", bin("04 22 4d 18 20"), api.ErrVersion},
		{"a bit that must be 0", bin("04 22 4d 18 62"), api.ErrReserved},
		{"a dictionary", bin("04 22 4d 18 61"), api.ErrDict},
		{"the head's sum", bin("04 22 4d 18 60 40 83"), api.ErrHead},
		{"a block that is too long", bin("04 22 4d 18 60 40 82 01 00 01 00"), api.ErrBlock},
		{"a block's sum", turned(sums, 12, 1), api.ErrBlockSum},
		{"a block's match", bin("04 22 4d 18 60 40 82 04 00 00 00 11 61 00 00 00 00 00 00"), api.ErrOffset},
		{"a block's end", bin("04 22 4d 18 60 40 82 01 00 00 00 01 00 00 00 00"), api.ErrEnd},
		{"a block's bytes", bin("04 22 4d 18 60 40 82 01 00 00 00 10 00 00 00 00"), api.ErrShort},
		{"another size", append(slices.Clone(twisted[:15]), size[15:]...), api.ErrContent},
		{"the content's sum", turned(sums, len(sums)-1, 128), api.ErrContentSum},
		{"a member's magic alone", bin("1f 8b"), api.ErrShort},
		{"the method", bin("1f 8b 07"), api.ErrMethod},
		{"the flags", bin("1f 8b 08 20"), api.ErrFlags},
		{"a name without an end", append(bin("1f 8b 08 08 00 00 00 00 00 00"), bytes.Repeat([]byte("n"), 65536)...), api.ErrLong},
		{"the member's head's sum", turned(summed, 10, 1), api.ErrHeadSum},
		{"a block of no kind", bin(head + "07"), api.ErrKindOf},
		{"a stored block", bin(head + "01 01 00 fe fe"), api.ErrStored},
		{"lengths that can't be", append(bin(head+"04"), make([]byte, 99)...), api.ErrLengths},
		{"a symbol that says nothing", bin(head + "1b 03"), api.ErrWord},
		{"a match ahead of all", bin(head + "03 02"), api.ErrDistance},
		{"a stream that is cut", bin(head + "4b 04"), api.ErrShort},
		{"the sum", turned(member, len(member)-8, 1), api.ErrCheck},
		{"the length", turned(member, len(member)-4, 1), api.ErrCount},
		{"something behind a member", append(slices.Clone(member), 0, 0, 1), api.ErrMore},
	}
}

// P22.1: each error of the two layers, and that nothing else is answered with it.
func TestUnwrapFaults(t *testing.T) {
	for _, x := range faults(t) {
		for _, most := range []int{1, 1000, api.MaxBlock} {
			if _, why := unwrap(t, x.b, most); why != x.why {
				t.Errorf("%s, at most %d: %d, not %d", x.name, most, why, x.why)
			}
		}
	}
}

// P22.2: wrapped in everything, and unwrapped again.
func TestWrap(t *testing.T) {
	for _, m := range wrappings() {
		for _, plain := range []string{"", "a", end, strings.Repeat("abc", 40000), "\x1f\x8b\x08", "\x04\x22\x4d\x18"} {
			b, why := wrap(t, []byte(plain), m)
			if why != api.OK || m.Wrap == api.Plain && string(b) != plain {
				t.Fatalf("%.9q in %+v: %s %d", plain, m, brief(b), why)
			}
			if m.Wrap == api.Plain {
				continue
			}
			if got, why := unwrap(t, b, len(plain)); string(got) != plain || why != api.OK {
				t.Errorf("%.9q in %+v: %s %d", plain, m, brief(got), why)
			}
		}
	}
}

// P22.2: what there is no wrapping of; what the others say of wrappings plays no part, nor what is said of packing and writing.
func TestWrapOfNoKind(t *testing.T) {
	for _, b := range [][]byte{nil, []byte("a"), make([]byte, api.MaxBlock+1)} {
		for _, kind := range []int{math.MinInt, -1, 3, 4, 256, 257, 1 << 32, 1<<32 + 1, math.MaxInt} {
			for _, m := range wrappings() {
				m.Wrap = kind
				if out, why := archive.Wrap(b, m); out != nil || why != api.ErrArg {
					t.Fatalf("%+v: %s %d", m, brief(out), why)
				}
			}
		}
	}
	for _, m := range three() {
		want := mustWrap(t, []byte("text"), m)
		m.Packing, m.Style = api.Packing{NoTimes: true, NoOwners: true, Apart: true}, api.Style{Form: 99, Holes: -1}
		if m.Wrap != api.LZ4 {
			m.Shape = api.Shape{Block: -7, Alone: true}
		}
		if m.Wrap != api.Gzip {
			m.Way = 99
		}
		if got := mustWrap(t, []byte("text"), m); !bytes.Equal(got, want) {
			t.Errorf("%+v: %x, not %x", m, got, want)
		}
	}
}

// P22.2: Shapes and Ways that can't be, ahead of bytes that are too many; and bytes that are.
func TestWrapRefuses(t *testing.T) {
	long := make([]byte, api.MaxBlock+1)
	for _, b := range [][]byte{nil, []byte("a"), long} {
		for _, n := range []int{math.MinInt, -1, 0, 1, 2, 3, 4, 5, 6, 7, 8, 9, 68, math.MaxInt} {
			tooLong := api.OK
			if len(b) > api.MaxBlock {
				tooLong = api.ErrLong
			}
			shape, way := tooLong, tooLong
			if n < 4 || n > 7 {
				shape = api.ErrArg
			}
			if n < 0 || n > 3 {
				way = api.ErrArg
			}
			for wrapping, want := range []api.Errno{api.OK, shape, way} {
				if _, why := wrap(t, b, api.Making{Wrap: wrapping, Shape: api.Shape{Block: n}, Way: n}); why != want {
					t.Errorf("%d bytes in %d, %d: %d, not %d", len(b), wrapping, n, why, want)
				}
			}
		}
	}
}

// P22.2; P6 of the whole: members are the zero member's, and another reader of the standard reads them.
func TestWrapIsRead(t *testing.T) {
	text := strings.Repeat("some text, ", 300)
	for way := range 4 {
		b := mustWrap(t, []byte(text), api.Making{Wrap: api.Gzip, Way: way})
		if !bytes.HasPrefix(b, bin("1f 8b 08 00 00 00 00 00 00 00")) {
			t.Errorf("%x", b[:12])
		}
		r, err := gzip.NewReader(bytes.NewReader(b))
		if err != nil {
			t.Fatal(err)
		}
		if got, err := io.ReadAll(r); err != nil || string(got) != text {
			t.Error(err)
		}
	}
}
