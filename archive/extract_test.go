package archive_test

import (
	"bytes"
	"encoding/base64"
	"fmt"
	"math"
	"slices"
	"strings"
	"testing"

	"satchel/api"
	"satchel/extract"
	"satchel/frame"
	"satchel/reader"
	"satchel/vfs"
	"satchel/writer"
)

// P22.3: a quota that can't be is told ahead of all else, and nothing is done.
func TestQuotaThatCantBe(t *testing.T) {
	good := file("new", "data") + end
	var list [][]byte
	for _, m := range three() {
		list = append(list, mustWrap(t, []byte(good), m), mustWrap(t, []byte("no archive"), m))
	}
	for _, x := range faults(t) {
		list = append(list, x.b)
	}
	for _, q := range []api.Quota{
		{Bytes: -1, Entries: 9, Depth: 9}, {Bytes: 99, Entries: -1, Depth: 9}, {Bytes: 99, Entries: 9, Depth: -1}, {Bytes: -1, Entries: -1, Depth: -1},
		{Bytes: math.MinInt64, Entries: 9, Depth: 9}, {Bytes: 99, Entries: math.MinInt, Depth: 9}, {Bytes: 99, Entries: 9, Depth: math.MinInt},
		{Bytes: math.MaxInt64, Entries: math.MinInt, Depth: math.MaxInt},
	} {
		for _, b := range append(list, nil, []byte("x")) {
			for _, top := range []int{2, 99, 6} {
				for _, there := range []int{api.Keep, 3} {
					h := held{t, house(t)}
					h.nothing(b, top, api.Extraction{Policy: api.Policy{There: there}, Quota: q}, api.ErrArg, api.ErrRefused)
				}
			}
		}
	}
}

// P22.3: each error of unwrapping, ahead of what is wrong with the policy and with top; nothing is done.
func TestExtractFaults(t *testing.T) {
	seen := make(map[api.Errno]bool)
	for _, x := range faults(t) {
		seen[x.why] = true
		for _, q := range []api.Quota{{}, plenty, {Bytes: math.MaxInt64, Entries: math.MaxInt, Depth: math.MaxInt}} {
			for _, top := range []int{2, 99, 6, -1} {
				for _, there := range []int{api.Keep, api.Replace, 3} {
					h := held{t, house(t)}
					h.nothing(x.b, top, api.Extraction{Policy: api.Policy{There: there, Parents: true, Leaving: true}, Quota: q}, x.why, api.ErrFormat)
				}
			}
		}
	}
	if len(seen) != 24 {
		t.Errorf("%d of the errors", len(seen))
	}
}

// P22.3: what stands ahead of a fault in what is wrapped is not brought out, in whatever frame or member it is.
func TestExtractNothingAheadOfFaults(t *testing.T) {
	good := []byte(file("a", "data") + dir("d", 0o755))
	for _, m := range three()[1:] {
		whole := mustWrap(t, good, m)
		for _, x := range faults(t) {
			b := slices.Concat(whole, x.b)
			h := newHeld(t, 9, 99)
			h.unchanged(x.name, func() {
				if report, why := h.extract(b, 1, leaving); report != (api.Report{Cause: report.Cause}) || report.Cause == api.OK || why != api.ErrFormat {
					t.Errorf("%s: %+v %d", x.name, report, why)
				}
			})
		}
	}
}

// P22.3: what chapter 20 finds ahead of all comes behind unwrapping, and is told as it has it.
func TestExtractBegins(t *testing.T) {
	for _, m := range three() {
		for _, plain := range []string{"", file("new", "data") + end, "no archive"} {
			b := mustWrap(t, []byte(plain), m)
			for _, x := range []struct {
				there, top int
				cause, why api.Errno
			}{
				{3, 2, api.ErrArg, api.ErrRefused},
				{-1, 99, api.ErrArg, api.ErrRefused},
				{api.Keep, 99, api.ErrOutside, api.ErrBlocked},
				{api.Keep, 0, api.ErrOutside, api.ErrBlocked},
				{api.Skip, 6, api.ErrNotDir, api.ErrBlocked},
				{api.Replace, 8, api.ErrNotDir, api.ErrBlocked},
			} {
				h := held{t, house(t)}
				h.nothing(b, x.top, api.Extraction{Policy: api.Policy{There: x.there}, Quota: plenty}, x.cause, x.why)
			}
		}
	}
}

// quotas are quotas by what they allow: the least that any allows, a little more, nearly as much as can be, and that.
func quotas() []api.Quota {
	return []api.Quota{
		{}, {Depth: 256}, {Depth: math.MaxInt}, {Bytes: 1}, {Entries: 1}, {Bytes: 100, Entries: 3, Depth: 2},
		{Bytes: 1<<22 - 1024 - 1<<20 - 1}, {Bytes: 1<<22 - 1024 - 1<<20}, {Bytes: 1<<22 - 1024 - 1<<20 + 1},
		{Entries: 2047}, {Entries: 2048}, {Bytes: 1<<22 - 1024 - 1<<20 - 1536 - 1, Entries: 1},
		{Bytes: math.MaxInt64}, {Entries: math.MaxInt}, {Bytes: math.MaxInt64, Entries: math.MaxInt, Depth: math.MaxInt}, {Bytes: math.MaxInt64 - 1<<20, Entries: 1},
		{Entries: math.MaxInt/1536 + 1}, {Bytes: 1 << 62, Entries: 1 << 62},
	}
}

// P22.3, P22.8: just as many plain bytes as the quota allows, wrapped and not, and one more.
func TestOuter(t *testing.T) {
	t.Parallel()
	if modelOuter(api.Quota{}) != 1049600 || modelOuter(api.Quota{Bytes: 100, Entries: 3}) != 1049600+100+4608 {
		t.Fatal(modelOuter(api.Quota{}))
	}
	wrapped := make(map[int][][]byte) // by how many they are, in the three wrappings
	for i, q := range quotas() {
		outer := modelOuter(q)
		o := api.Extraction{Quota: q}
		first := wrapped[outer] == nil
		if first {
			zeros := make([]byte, outer)
			copy(zeros[512:], "what stands behind an archive's end")
			for _, m := range three() {
				wrapped[outer] = append(wrapped[outer], mustWrap(t, zeros, m))
			}
		}
		for j, m := range three() {
			h := newHeld(t, 2, 2)
			if first || m.Wrap != api.Gzip { // which takes longest
				h.nothing(wrapped[outer][j], 1, o, api.OK, api.OK)
			}
			// Two frames, members or pieces, as one can't have more than MaxBlock plain bytes.
			b := slices.Concat(wrapped[outer][j], mustWrap(t, make([]byte, 1+i%3*511), m))
			if m.Wrap == api.Plain {
				h.nothing(b, 1, o, api.OK, api.OK)
			} else {
				h.nothing(b, 1, o, api.ErrPlain, api.ErrLimits)
			}
		}
	}
}

// P22.3: an archive whose entries lie beyond what a quota allows: brought out, if it isn't wrapped.
func TestBeyondOuter(t *testing.T) {
	t.Parallel()
	q := api.Quota{Bytes: 7, Entries: 2, Depth: 1}
	outer := modelOuter(q)
	skipped := made(api.Header{Name: "x", Type: 'g'}, strings.Repeat("20 comment=remarkable"[:19]+"\n", 52428))
	b := skipped + file("a", "abc")
	b += strings.Repeat(made(api.Header{Name: "x", Type: 'g'}, ""), (outer-len(b))/512-1)
	for _, more := range []int{0, 1, 2} {
		plain := []byte(b + strings.Repeat(made(api.Header{Name: "x", Type: 'g'}, ""), more) + file("b", "abcd"))
		for _, m := range three() {
			h := newHeld(t, 9, 99)
			o := api.Extraction{Quota: q}
			if len(plain) <= outer || m.Wrap == api.Plain {
				h.comes(mustWrap(t, plain, m), 1, o, api.Report{Done: 2, Bytes: 7, Place: len(plain)}, api.OK)
			} else {
				h.nothing(mustWrap(t, plain, m), 1, o, api.ErrPlain, api.ErrLimits)
			}
		}
	}
}

// P22.8; P6 of the whole: of bytes that would come to far more, no more than may be is unwrapped: it ends soon, and with little room.
func TestBombs(t *testing.T) {
	t.Parallel()
	zeros := make([]byte, api.MaxBlock)
	for _, m := range []api.Making{{Wrap: api.LZ4, Shape: api.Shape{Block: 7, Alone: true}}, {Wrap: api.LZ4, Shape: api.Shape{Block: 4, BlockSums: true}}, {Wrap: api.Gzip, Way: 3}} {
		b := bytes.Repeat(mustWrap(t, zeros, m), 500)
		for _, q := range []api.Quota{{}, plenty} {
			newHeld(t, 9, 99).nothing(b, 1, api.Extraction{Quota: q}, api.ErrPlain, api.ErrLimits)
		}
		// Many with nothing in them are no fault, however many they are.
		b = bytes.Repeat(mustWrap(t, nil, m), 20000)
		newHeld(t, 9, 99).nothing(b, 1, api.Extraction{}, api.OK, api.OK)
	}
	skip, _ := frame.Skip(1, nil)
	newHeld(t, 9, 99).nothing(bytes.Repeat(skip, 100000), 1, api.Extraction{}, api.OK, api.OK)
}

// mixed is an archive with entries of all kinds in a style, among them, where the style can, ones that records ahead and maps belong to.
func mixed(t *testing.T, s api.Style) []byte {
	t.Helper()
	m := api.Meta{Mode: 0o644, Uid: 7, Gid: 8, Time: 9}
	holes := strings.Repeat("\x00", 700) + "some bytes" + strings.Repeat("\x00", 800)
	l := []api.Packed{
		{Entry: api.Entry{Name: "d", Kind: api.Dir, Meta: api.Meta{Mode: 0o500, Time: 5}}},
		{Entry: api.Entry{Name: "d/f", Kind: api.File, Meta: m, Size: 3}, Data: []byte("abc")},
		{Entry: api.Entry{Name: "d/h", Kind: api.File, Meta: m, Size: int64(len(holes))}, Data: []byte(holes)},
		{Entry: api.Entry{Name: "h", Kind: api.HardLink, Meta: m, Link: "d/f"}},
		{Entry: api.Entry{Name: "s", Kind: api.Symlink, Meta: m, Link: "d/f"}},
		{Entry: api.Entry{Name: "z", Kind: api.File, Meta: m}},
	}
	if s.Form == api.GNU || s.Form == api.Pax {
		l[4].Entry.Link = strings.Repeat("up/", 40)
		l[5].Entry.Name = strings.Repeat("z", 120)
	}
	if s.Form == api.Pax {
		l[5].Entry.Meta.Nano = 5
	}
	b, why := writer.Write(l, s)
	if why != api.OK {
		t.Fatal(why)
	}
	return b
}

// P22.3, P22.8, P22.9: archives that end well, in every wrapping.
func TestExtractWhole(t *testing.T) {
	for _, s := range styles() {
		b := mixed(t, s)
		for _, m := range wrappings() {
			h := newHeld(t, 9, 9999)
			h.comes(mustWrap(t, b, m), 1, leaving, api.Report{Done: 6, Bytes: 1513, Place: len(b) - 1024}, api.OK)
			if metaOf(h.f, at(h.f, "d")) != (api.Meta{Mode: 0o500, Time: 5}) || bytesAt(h.f, "h") != "abc" || at(h.f, "h") != at(h.f, "d/f") {
				t.Fatal(brief(h.f.Image()))
			}
		}
	}
}

// P22.3, P22.8; P8 of the whole: archives that are cut anywhere, in every sort of wrapping: all entries ahead of the cut are brought out.
func TestExtractCut(t *testing.T) {
	t.Parallel()
	for _, s := range []api.Style{{Form: api.Ustar}, {Form: api.GNU, Holes: 100}, {Form: api.Pax, Holes: 100}} {
		b := mixed(t, s)
		t.Run(fmt.Sprint(s), func(t *testing.T) {
			t.Parallel()
			for cut := range len(b) + 1 {
				cutAt(t, b, cut, someOf(s, cut))
			}
		})
	}
}

// someOf is the wrappings in which an archive is tried at a place: all of them in one style; in the others one, by turns.
func someOf(s api.Style, place int) []api.Making {
	if s.Form == api.Ustar {
		return three()
	}
	i := (place + place/512) % 3
	return three()[i : i+1]
}

// cutAt brings out what is left of an archive that ends well.
func cutAt(t *testing.T, b []byte, cut int, in []api.Making) {
	t.Helper()
	items, _, _ := reader.Read(b)
	want := api.Report{}
	for _, x := range items {
		if x.Next <= cut {
			want.Done++
			want.Bytes += x.Entry.Size
		}
	}
	_, want.Place, want.Cause = reader.Read(b[:cut])
	why := api.ErrFormat
	if want.Cause == api.OK {
		why = api.OK
	}
	for _, m := range in {
		newHeld(t, 9, 9999).comes(mustWrap(t, b[:cut], m), 1, leaving, want, why)
	}
}

// P22.3: wrapped bytes that are cut anywhere: nothing is brought out at all.
func TestExtractWrappedCut(t *testing.T) {
	t.Parallel()
	b := mixed(t, api.Style{Form: api.Pax, Holes: 100})
	for _, m := range wrappings()[1:] {
		if m.Shape.Block > 4 && !m.Shape.ContentSize {
			continue
		}
		w := mustWrap(t, b, m)
		h := newHeld(t, 9, 9999)
		for cut := range w {
			if len(w) > 3000 && cut > 20 && cut < len(w)-20 && cut%50 != 0 {
				continue
			}
			report, why := h.extract(w[:cut], 1, leaving)
			want := api.Report{Cause: api.ErrShort}
			if cut < 2 || cut < 4 && m.Wrap == api.LZ4 {
				want.Place = cut // as an archive that isn't wrapped, and ends in its first record
			}
			if cut == 0 && (why != api.OK || report != (api.Report{})) || cut > 0 && (why != api.ErrFormat || report != want) {
				t.Fatalf("%+v, cut at %d of %d: %+v %d", m, cut, len(w), report, why)
			}
		}
		if names(h.f, 1) != "" || len(h.f.Trace()) > 0 {
			t.Fatal(names(h.f, 1))
		}
	}
}

// same brings the same archive out in several wrappings, which comes to the same.
func same(t *testing.T, plain []byte, f *vfs.FS, top int, o api.Extraction, in []api.Making) (api.Report, api.Errno) {
	t.Helper()
	g := f.Clone()
	report, why := extract.Extract(plain, g, top, o)
	for _, m := range in {
		h := held{t, f.Clone()}
		if got, e := h.extract(mustWrap(t, plain, m), top, o); got != report || e != why || !sameImage(h.f.Image(), g.Image()) || !slices.Equal(h.f.Trace(), g.Trace()) {
			t.Fatalf("%s in %+v, %+v: %+v %d, not %+v %d", sketch(plain), m, o, got, e, report, why)
		}
	}
	return report, why
}

// P22.3, P22.9: archives that are spoilt at every byte come to the same in every sort of wrapping.
func TestExtractSpoilt(t *testing.T) {
	t.Parallel()
	for _, s := range []api.Style{{Form: api.Ustar}, {Form: api.GNU, Holes: 100}, {Form: api.Pax, Holes: 100}} {
		b := mixed(t, s)
		t.Run(fmt.Sprint(s), func(t *testing.T) {
			t.Parallel()
			seen := make(map[api.Errno]int)
			f, _ := vfs.New(9, 9999)
			for place := range b {
				spoilt := turned(b, place, []byte{1, 255, 0x20}[place%3])
				if modelKind(spoilt) != api.Plain {
					t.Fatal(place)
				}
				_, why := same(t, spoilt, f, 1, leaving, someOf(s, place))
				seen[why]++
			}
			if seen[api.OK] == 0 || seen[api.ErrFormat] == 0 {
				t.Error(seen)
			}
		})
	}
}

// P22.3: wrapped bytes that are spoilt at every byte: all of the archive is brought out, or nothing.
func TestExtractWrappedSpoilt(t *testing.T) {
	t.Parallel()
	b := mixed(t, api.Style{Form: api.GNU, Holes: 100})
	for _, m := range []api.Making{
		{Wrap: api.LZ4, Shape: api.Shape{Block: 4, ContentSum: true}}, {Wrap: api.LZ4, Shape: api.Shape{Block: 7, Alone: true, BlockSums: true, ContentSum: true, ContentSize: true}},
		{Wrap: api.Gzip, Way: 1}, {Wrap: api.Gzip, Way: 2},
	} {
		w := mustWrap(t, b, m)
		good, bad := 0, 0
		for place := range w {
			for _, by := range []byte{1, 16, 255} {
				h := newHeld(t, 9, 9999)
				switch report, why := h.extract(turned(w, place, by), 1, leaving); {
				case why == api.OK && report == (api.Report{Done: 6, Bytes: 1513, Place: len(b) - 1024}):
					good++
				case why == api.ErrFormat && report.Done == 0 && len(h.f.Trace()) == 0 && (report.Place == 0 || place < 4):
					bad++
				default:
					t.Fatalf("%+v, %d turned by %d: %+v %d", m, place, by, report, why)
				}
			}
		}
		if bad == 0 || m.Wrap == api.Gzip && good == 0 || m.Wrap == api.LZ4 && m.Shape.BlockSums && good > 0 {
			t.Errorf("%+v: %d good, %d bad", m, good, bad)
		}
	}
}

// P22.3: what is wrapped twice is unwrapped once: it is no archive then.
func TestWrappedTwice(t *testing.T) {
	plain := []byte(file("a", "data") + end)
	for _, in := range three()[1:] {
		for _, out := range three()[1:] {
			b := mustWrap(t, mustWrap(t, plain, in), out)
			once := mustWrap(t, plain, in)
			h := newHeld(t, 9, 99)
			h.unchanged("wrapped twice", func() {
				if report, why := h.extract(b, 1, leaving); why != api.ErrFormat || report.Done > 0 {
					t.Error(report, why)
				}
			})
			if got, why := unwrap(t, b, api.MaxBlock); !bytes.Equal(got, once) || why != api.OK {
				t.Error(why)
			}
		}
	}
}

// P22.9: policies, quotas and room: the same archive comes to the same, whatever it is wrapped in.
func TestWhateverTheWrapping(t *testing.T) {
	t.Parallel()
	seen := make(map[api.Errno]int)
	archives := [][]byte{nil, []byte(end), []byte("x"), []byte(symlink("s", "/etc") + file("s/passwd", "evil")), []byte(device("dev") + end), []byte(file("d", "x") + end), []byte(file("f", "x") + file("x/y/z", "deep") + end)}
	for _, s := range styles() {
		archives = append(archives, mixed(t, s))
	}
	for _, b := range archives {
		for _, there := range []int{api.Keep, api.Replace, api.Skip, 9} {
			for _, q := range append(quotas(), plenty, api.Quota{Bytes: 1510, Entries: 9, Depth: 9}, api.Quota{Bytes: 9999, Entries: 3, Depth: 9}, api.Quota{Bytes: 9999, Entries: 9, Depth: 1}) {
				for i, f := range []*vfs.FS{newHeld(t, 9, 9999).f, newHeld(t, 4, 9999).f, newHeld(t, 9, 100).f, grown(t, "d/", "d/f", "f", "s -> ..")} {
					o := api.Extraction{Policy: api.Policy{There: there, Parents: i%2 == 0, Leaving: q.Depth > 2, Mask: uint32(i)}, Quota: q}
					report, why := same(t, b, f, 1, o, three())
					seen[why]++
					if i == 3 && report.Skipped > 0 {
						seen[-1]++
					}
				}
			}
		}
	}
	for _, why := range []api.Errno{-1, api.OK, api.ErrFormat, api.ErrUnsafer, api.ErrBlocked, api.ErrLimits, api.ErrUnknown, api.ErrNoRoom, api.ErrRefused} {
		if seen[why] == 0 {
			t.Errorf("never %d: %v", why, seen)
		}
	}
}

// What GNU tar 1.34 wrote, wrapped by gzip 1.12 and lz4 1.9.4.
const (
	byTarV7AndGzip   = "H4sIAAAAAAACA+3WPQqDQBCG4alzCk/g/s7shTRYCCnS5PgR0RQJiClcEN+n+WC7nY9ZtnNyOD8pGub0Xpe0JWcSQsiafUgxTucW1UujciLrRdY8ic71rkr/n9Hs6j+b0X+d/u9VRmN5q3/77j+lLI3Q/+GGfhwfN8FFDZVWY3v/f95/1SJNqPE4XXz/n5VGU0r5p3+L0/8vtq170T8AAAAAAAAAAAAA7PIGACJUhAAoAAA="
	byTarGNUAndGzip  = "H4sIAAAAAAACA+3XSwqDMBAG4Fn3FDmByeS57QG8REH7oKJQW+jxG8QutGBxkRTq/20GRHDxZyZjJSk5FQXHQ1XKjdWPdUDMbJ1VbLSOzz37QMJRBo/+frgJQRtVyVpmyT9mvCJ/G19D/lnyP2bp/5joQv5+nr8xhoRC/smd66bpdgRbzT/DN773/+f8D54E5xhOG+//PlP+IYQ1+TsT9z9dFPKJ/JMqZCH3Zdeeykt7Tdr/9p33vCoOPDkLw2nRJErc/8m1P4Kbdzv5D/2/+P9np/M/bv/aYv/PoYmjH10AAAAAAAAAAAAA8H9e7d2SLgAoAAA="
	byTarPaxAndLZ4   = "BCJNGGRAp0ABAAA/ZC8AAQBOcTAwMDA3NTEIADMwMDUIADY2ADABAP8IADExMTQ1NDAxMzIyADAwNzQ2NwAgNQABAFCPdXN0YXIAMDDlADEAyQAECAAPAQCUT2QvZS8AAlIvMDAAAhk/NzA1AAL/Vh9mAARSLzY0AAIJHDYAAm82MzMAIDAAAv9Rf2hlbGxvCgABAP/nP2gAAAAEcA4ABl43NgAgMZ0EDwAE/z8fcwACVD83NzcAAhfPMTAwMzcAIDIuLi94AAL/Te8uL1BheEhlYWRlcnMvbgEAQwIABB00IwEE/QE6MjAyAAKPMzMwMjQAIHgACFkPAAbkrzEzMCBwYXRoPW4BAGQPfAj/bQ/jAVEBAAQPAA4KGzQABE80NjI0AAz/VF9sb25nAAEA////////////////////////////+FAAAAAAAAAAAAB03qJ5"
	byTarUstarAndLZ4 = "BCJNGHxAACgAAAAAAAAdEQEAAD9kLwABAE5xMDAwMDc1MQgAMzAwNQgAEzYIAAECAP8HADExMTQ1NDAxMzIyADAwNzQ2NwAgNZoATrEAAAB1c3RhcgAwMA0ADwIAKAHHACQwMNUAD0oAKA8CAFo/ZC9lAgJOABgBFTcbAQ8AAhI/NzA1AAL/Vh9mcAJOAAACJDY0GwMPAAIBHDYABF82MzMAIJQDLg8CABEPAATsb2hlbGxvCikBEQ8CAP/EH2jXAVAPAAQPHDAABG83NzYAIDGdBFEPAATsH3MAAlQzNzc3GwkPAAYBCwACzzEwMDM3ACAyLi4veKAATQ8AAuwPAgD/////////////////////////////////////BFAAAAAAAIXaUwsAAAAAUXCNtg=="
)

// P22.1, P22.3, P22.5; P6 of the whole: archives that other programs made and wrapped.
func TestOfOtherPrograms(t *testing.T) {
	far := strings.Repeat("n", 120)
	for _, x := range []struct {
		text       string
		kind, many int
	}{{byTarV7AndGzip, api.Gzip, 5}, {byTarGNUAndGzip, api.Gzip, 6}, {byTarPaxAndLZ4, api.LZ4, 6}, {byTarUstarAndLZ4, api.LZ4, 5}} {
		b, err := base64.StdEncoding.DecodeString(x.text)
		if err != nil || modelKind(b) != x.kind {
			t.Fatal(err, modelKind(b))
		}
		want := newHeld(t, 20, 99)
		meta := func(mode uint32) api.Meta { return api.Meta{Mode: mode, Uid: 5, Gid: 6, Time: 1234567890} }
		d, _ := want.f.Mkdir(1, "d", meta(0o751))
		want.f.Mkdir(d, "e", meta(0o700))
		f, _ := want.f.Create(d, "f", meta(0o640))
		want.f.Write(f, 0, []byte("hello\n"))
		want.f.Link(1, "h", f)
		want.f.Symlink(1, "s", "../x", meta(0o777))
		told, bytes := " d/ d/e/ d/f h s", int64(6)
		if x.many == 6 {
			n, _ := want.f.Create(1, far, meta(0o600))
			want.f.Write(n, 0, []byte("long"))
			told, bytes = told+" "+far, 10
		}
		h := newHeld(t, 20, 99)
		report, why := h.extract(b, 1, leaving)
		if why != api.OK || report.Done != x.many || report.Bytes != bytes || !vfs.Alike(h.f, 1, want.f, 1) {
			t.Errorf("%+v %d: %s", report, why, brief(h.f.Image()))
		}
		if l, why := list(t, b, api.MaxBlock); l != told || why != api.OK {
			t.Errorf("%q %d", l, why)
		}
	}
}
