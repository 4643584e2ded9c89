package reader_test

import (
	"fmt"
	"slices"
	"strings"
	"testing"

	"satchel/api"
	"satchel/field"
)

// patch is other bytes at a place.
type patch struct {
	at    int
	bytes string
}

// plan is a header with what stands ahead of it and behind it, and with its faults.
type plan struct {
	said    []string // pairs ahead of it
	h       api.Header
	patches []patch // of the header's record
	badSum  bool
	further []patch // of the further record of an old file with holes; nil: it has none
	whole   string  // of a file with holes
	text    string  // its map
	data    string
	cut     string // the place within which the bytes end, or none
}

// parts is where the parts of what a plan comes to stand.
type parts map[string]int

// build is the bytes of a plan, and where its parts stand.
func (p plan) build(t *testing.T) (string, parts) {
	t.Helper()
	at := parts{}
	b := ""
	if p.whole != "" && p.h.Type != 'S' {
		p.said = append([]string{"GNU.sparse.realsize", p.whole}, p.said...)
	}
	if len(p.said) > 0 {
		b = local(t, p.said...)
	}
	at["head"] = len(b)
	data := p.text + p.data
	if p.h.Size == 0 {
		p.h.Size = int64(len(data))
	}
	r := [512]byte([]byte(record(t, p.h)))
	for _, x := range p.patches {
		copy(r[x.at:], x.bytes)
	}
	r = field.PutSum(r)
	if p.badSum {
		r[148] ^= 1
	}
	b += string(r[:])
	if p.further != nil {
		at["further"] = len(b)
		var more [512]byte
		for _, x := range p.further {
			copy(more[x.at:], x.bytes)
		}
		b += string(more[:])
	}
	at["data"] = len(b)
	b += filled(data)
	at["end"] = len(b)
	if p.cut != "" {
		at["end"] = at[p.cut] + 100
		b = b[:at["end"]]
	}
	return b, at
}

// flaw is a fault that a plan may have: what it is, where it is told, and why. Flaws of a lower order are told first.
type flaw struct {
	name  string
	order int
	spoil func(p *plan)
	part  string
	more  int
	why   api.Errno
}

// say is a flaw of a pair.
func say(key, value string, order int, why api.Errno) flaw {
	return flaw{key + " " + value[:min(len(value), 20)], order, func(p *plan) { p.said = append(p.said, key, value) }, "head", 0, why}
}

// at is a flaw of a header's record.
func at(name string, place int, bytes string, order int, more int, why api.Errno) flaw {
	return flaw{name, order, func(p *plan) { p.patches = append(p.patches, patch{place, bytes}) }, "head", more, why}
}

// ofRecords are the flaws that each header may have.
func ofRecords() []flaw {
	return []flaw{
		{"a record that is not whole", 0, func(p *plan) { p.cut = "head" }, "end", 0, api.ErrShort},
		{"another sum", 1, func(p *plan) { p.badSum = true }, "head", 148, api.ErrSum},
		at("another magic", 257, "USTAR", 2, 257, api.ErrMagic),
		at("a mode", 100, "9", 3, 100, api.ErrDigit),
		at("a uid below 0", 108, "\xff", 4, 108, api.ErrBig),
		at("a gid", 116, "x", 5, 116, api.ErrDigit),
		at("a size", 124, "-", 6, 124, api.ErrDigit),
		at("a size below 0", 124, "\xff", 6, 124, api.ErrBig),
		at("a time", 136, "\xbf", 7, 136, api.ErrBig),
	}
}

// ofEntries are those that each entry's header may have.
func ofEntries() []flaw {
	const great, over = "9223372036854775808", "4294967296"
	return append(ofRecords(),
		say("size", "x", 10, api.ErrDigit),
		say("size", great, 10, api.ErrBig),
		say("size", "-1", 10, api.ErrDigit),
		say("uid", "1.0", 11, api.ErrDigit),
		say("uid", great, 11, api.ErrBig),
		say("uid", over, 11, api.ErrBig),
		at("a great uid", 108, "\x80\x00\x00\x01\x00\x00\x00\x00", 11, 0, api.ErrBig),
		say("gid", " 1", 12, api.ErrDigit),
		say("gid", great, 12, api.ErrBig),
		say("gid", over, 12, api.ErrBig),
		at("a great gid", 116, "\x80\x00\x00\x01\x00\x00\x00\x00", 12, 0, api.ErrBig),
		say("mtime", "1.x", 13, api.ErrDigit),
		say("mtime", "-"+great, 13, api.ErrBig),
		say("mtime", ".5", 13, api.ErrDigit),
	)
}

func dataCut(order int) flaw {
	return flaw{"data that are not whole", order, func(p *plan) { p.cut = "data" }, "end", 0, api.ErrShort}
}

// flawed is a flaw of a map, or of the data.
func flawed(name string, order int, part string, why api.Errno, spoil func(p *plan)) flaw {
	return flaw{name, order, spoil, part, 0, why}
}

// ofOld are those of a file with holes of the type S.
func ofOld() []flaw {
	further := func(name string, place int, bytes string, why api.Errno) flaw {
		return flawed(name, 22, "further", why, func(p *plan) { p.further = append(p.further, patch{place, bytes}) })
	}
	return append(ofEntries(),
		at("a range's place", 386, "x", 20, 0, api.ErrDigit),
		at("a range's place below 0", 386, "\xff\xff\xff\xff\xff\xff\xff\xff\xff\xff\xff\xff", 20, 0, api.ErrForm),
		at("a range's length", 398+24, "\xbf", 20, 0, api.ErrBig),
		at("a range that ends too far", 386, "\x80\x00\x00\x00\x7f\xff\xff\xff\xff\xff\xff\xff", 20, 0, api.ErrForm),
		at("the whole size", 483, "8", 20, 0, api.ErrDigit),
		at("the whole size below 0", 483, strings.Repeat("\xff", 12), 20, 0, api.ErrForm),
		flawed("a further record that is not whole", 21, "end", api.ErrShort, func(p *plan) { p.cut = "further" }),
		further("a further range's place", 24, "x", api.ErrDigit),
		further("a further range's length below 0", 12, strings.Repeat("\xff", 12), api.ErrForm),
		further("a last range that is too great", 480, "\xbf", api.ErrBig),
		dataCut(23),
		at("a map that is not of the whole size", 483, "00000000001", 24, 0, api.ErrSparse),
		flawed("more data", 24, "head", api.ErrSparse, func(p *plan) { p.data += "d" }),
		flawed("a further range that falls", 24, "head", api.ErrSparse, func(p *plan) { p.further = append(p.further, patch{0, "00000000001\x0000000000001\x00"}) }),
	)
}

// ofNew are those of a file with holes whose data begin with a map.
func ofNew() []flaw {
	whole := func(value string, why api.Errno) flaw {
		return flawed("the whole size "+value, 21, "head", why, func(p *plan) { p.whole = value })
	}
	text := func(name, text string, why api.Errno) flaw {
		return flawed(name, 22, "data", why, func(p *plan) { p.text, p.data = text, "" })
	}
	return append(ofEntries(),
		dataCut(20),
		flawed("no whole size", 21, "head", api.ErrDigit, func(p *plan) { p.whole = "" }),
		whole("-9", api.ErrDigit),
		whole("9223372036854775808", api.ErrBig),
		text("no number", "x\n", api.ErrForm),
		text("too many ranges", "65537\n", api.ErrLong),
		text("ranges that are not there", "2\n0\n1\n", api.ErrShort),
		text("a map that is not whole", mapText(ranges(0, 1))[:511], api.ErrShort),
		text("ranges that fall", mapText(ranges(5, 6, 1, 2)), api.ErrForm),
		text("no zeros", "0\n"+zeros(509)+"x", api.ErrForm),
		flawed("a map that is not of the whole size", 23, "head", api.ErrSparse, func(p *plan) { p.text = mapText(ranges(0, 1, 9, 11)) }),
		flawed("more data", 23, "head", api.ErrSparse, func(p *plan) { p.data += "d" }),
		flawed("fewer data", 23, "head", api.ErrSparse, func(p *plan) { p.data = p.data[:1] }),
	)
}

// ofTold are those of a header that tells of others by pairs.
func ofTold(t *testing.T) []flaw {
	return append(ofRecords(),
		flawed("a size above MaxMeta", 10, "head", api.ErrLong, func(p *plan) { p.h.Size = 1<<20 + 1 }),
		flawed("the greatest size", 10, "head", api.ErrLong, func(p *plan) { p.h.Size = 1<<63 - 1 }),
		dataCut(11),
		flaw{"pairs that can't be", 12, func(p *plan) { p.data = "5 a=\n0" + p.data }, "data", 5, api.ErrLength},
		flaw{"no key", 12, func(p *plan) { p.data = "6 a=b\n6 =bb\n" + p.data }, "data", 8, api.ErrKey},
		flawed("too many pairs", 13, "head", api.ErrLong, func(p *plan) { p.data += lines(t, many(1025)...) }),
	)
}

// heldFlaws holds each flaw and each pair of flaws that are told one ahead of the other, at the first header and at later ones.
func heldFlaws(t *testing.T, sound plan, flaws []flaw) {
	t.Helper()
	try := func(name string, told flaw, spoil ...flaw) {
		t.Helper()
		p := sound
		p.said, p.patches, p.further = slices.Clone(p.said), slices.Clone(p.patches), slices.Clone(p.further)
		for _, f := range spoil {
			f.spoil(&p)
		}
		b, at := p.build(t)
		for _, ahead := range []string{"", file(t, "f", "data"), global(t, "k", "v") + file(t, "f", "data") + longLink(t, "l")} {
			l, place, why := held(t, ahead+b)
			names := btoi(ahead != "")
			if want := len(ahead) + at[told.part] + told.more; place != want || why != told.why || len(l) != names {
				t.Fatalf("%s: %d %d behind %d, not %d %d", name, place, why, len(ahead), want, told.why)
			}
		}
	}
	for _, f := range flaws {
		try(f.name, f, f)
		for _, g := range flaws {
			if f.order < g.order {
				try(f.name+", ahead of "+g.name, f, g, f)
			}
		}
	}
	b, at := sound.build(t)
	if _, place, why := held(t, b); why != api.OK && why != api.ErrAlone || why == api.OK && place != at["end"] {
		t.Fatalf("without a fault: %d %d", place, why)
	}
}

// P16.2: each error of a file without holes, of a device and of a link, in turn and two at once.
func TestFaultsOfEntries(t *testing.T) {
	t.Parallel()
	for _, form := range forms {
		for _, kind := range []byte("07AV") {
			sound := plan{h: api.Header{Form: form, Name: "n", Mode: 0o644, Type: kind}, data: strings.Repeat("d", 700)}
			heldFlaws(t, sound, append(ofEntries(), dataCut(20)))
		}
		for _, kind := range []byte("123456") {
			heldFlaws(t, plan{h: api.Header{Form: form, Name: "n", Type: kind}}, ofEntries())
		}
	}
}

// P16.2: each error of a file with holes of the type S, in turn and two at once.
func TestFaultsOfOld(t *testing.T) {
	t.Parallel()
	slots := func(n ...int64) string {
		s := ""
		for _, x := range n {
			s += fmt.Sprintf("%011o\x00", x)
		}
		return s
	}
	sound := plan{
		h: api.Header{Form: api.GNU, Name: "n", Type: 'S'},
		patches: []patch{
			{386, slots(0, 1, 5, 1, 10, 1, 15, 1) + "\x01" + slots(100)},
		},
		further: []patch{{0, slots(20, 1, 22, 1)}, {48, strings.Repeat(slots(30, 0), 19)}},
		data:    "abcdef",
	}
	heldFlaws(t, sound, ofOld())
}

// P16.2: each error of a file with holes whose data begin with a map, in turn and two at once.
func TestFaultsOfNew(t *testing.T) {
	t.Parallel()
	for _, form := range forms {
		sound := plan{
			said:  []string{"GNU.sparse.major", "1", "GNU.sparse.minor", "0"},
			h:     api.Header{Form: form, Name: "n", Type: '0'},
			whole: "10",
			text:  mapText(ranges(0, 1, 7, 9)),
			data:  "abc",
		}
		heldFlaws(t, sound, ofNew())
	}
}

// P16.2: each error of a header that tells of others, in turn and two at once.
func TestFaultsOfTold(t *testing.T) {
	t.Parallel()
	for _, kind := range []byte("gx") {
		heldFlaws(t, plan{h: api.Header{Form: api.GNU, Name: "n", Type: kind}, data: lines(t, many(20)...)}, ofTold(t))
	}
	for _, kind := range []byte("LK") {
		flaws := slices.DeleteFunc(ofTold(t), func(f flaw) bool { return f.order > 11 })
		heldFlaws(t, plan{h: api.Header{Form: api.GNU, Name: "n", Type: kind}, data: strings.Repeat("n", 600)}, flaws)
	}
}

// P16.2: further records that are not there, not whole or broken, one by one; a record of zeros among them is no end.
func TestFurtherRecords(t *testing.T) {
	l := apart(4 + 3*21)
	b := oldWay(t, "holed", l, 1000, strings.Repeat("d", len(l)))
	for i := range 3 {
		at := 512 + 512*i
		for _, n := range []int{0, 1, 511} {
			holding(t, b[:at+n], nil, at+n, api.ErrShort)
		}
		holding(t, b[:at+5]+"x"+b[at+6:], nil, at, api.ErrDigit)
		holding(t, file(t, "f", "")+b[:at+5]+"x"+b[at+6:], []string{"f"}, 512+at, api.ErrDigit)
	}
	first := oldWay(t, "holed", apart(5), 9, "abcde")[:512]
	none := first + zeros(512) + filled("abcd")
	holding(t, with(none, 124, "00000000004"), []string{"holed"}, 1536, api.OK)
	// One says of itself that another one follows, and so on to the end.
	endless := zeros(504) + "\x01" + zeros(7)
	b = with(first, 124, "00000000004") + strings.Repeat(endless, 9)
	holding(t, b, nil, len(b), api.ErrShort)
	b += zeros(512) + filled("abcd")
	holding(t, b, []string{"holed"}, len(b), api.OK)
}
