package reader_test

import (
	"bytes"
	"maps"
	"math/big"
	"slices"
	"strings"
	"testing"

	"satchel/api"
	"satchel/field"
	"satchel/header"
	"satchel/pax"
	"satchel/reader"
	"satchel/sparse"
)

// step is what Next is to tell, and At and Globals behind it.
type step struct {
	item    api.Item
	there   bool
	why     api.Errno
	at      int
	globals []api.Pair
}

// pairsOf is pairs by their keys.
func pairsOf(m map[string]string) []api.Pair {
	var l []api.Pair
	for _, key := range slices.Sorted(maps.Keys(m)) {
		l = append(l, api.Pair{Key: key, Value: m[key]})
	}
	return l
}

// over is the pairs with others over them.
func over(m map[string]string, l []api.Pair) map[string]string {
	m = maps.Clone(m)
	for _, p := range l {
		m[p.Key] = p.Value
	}
	maps.DeleteFunc(m, func(_, value string) bool { return value == "" })
	return m
}

// modelSteps is what all calls of Next tell of b; the last one is the end, or the error.
func modelSteps(b string) []step {
	var l []step
	globals := map[string]string{}
	at := 0
	for {
		s := modelNext(b, at, &globals)
		s.globals = pairsOf(globals)
		l = append(l, s)
		if !s.there {
			return l
		}
		at = s.at
	}
}

// told is what stands ahead of an entry.
type told struct {
	heads        []int
	locals       []api.Pair
	names, links []string
}

// modelNext is the archive from a place on, as 16.1 and 16.2 say it.
func modelNext(b string, at int, globals *map[string]string) step {
	var all told
	for {
		rest := b[at:]
		if rest == "" || strings.HasPrefix(rest, strings.Repeat("\x00", 512)) {
			if len(all.heads) > 0 {
				return step{at: all.heads[0], why: api.ErrAlone}
			}
			return step{at: at}
		}
		if len(rest) < 512 {
			return step{at: len(b), why: api.ErrShort}
		}
		h, place, why := header.Decode([512]byte([]byte(rest)))
		if why != api.OK {
			return step{at: at + place, why: why}
		}
		if !slices.Contains([]byte("gxLK"), h.Type) {
			return modelEntry(b, at, h, all, *globals)
		}
		if h.Size > 1048576 {
			return step{at: at, why: api.ErrLong}
		}
		records := (int(h.Size) + 511) / 512
		if len(rest) < 512+512*records {
			return step{at: len(b), why: api.ErrShort}
		}
		if s := modelTold(rest[512:512+h.Size], h.Type, at, &all, globals); s.why != api.OK {
			return s
		}
		at += 512 + 512*records
	}
}

// modelTold is the data of a header that tells of others.
func modelTold(data string, kind byte, at int, all *told, globals *map[string]string) step {
	var l []api.Pair
	if kind == 'g' || kind == 'x' {
		var place int
		var why api.Errno
		l, place, why = pax.Parse([]byte(data))
		if why != api.OK {
			return step{at: at + 512 + place, why: why}
		}
	}
	text, _, _ := strings.Cut(data, "\x00")
	switch kind {
	case 'g':
		merged := over(*globals, l)
		if len(merged) > 1024 {
			return step{at: at, why: api.ErrLong}
		}
		*globals = merged
		return step{}
	case 'x':
		all.locals = append(all.locals, l...)
		if len(all.locals) > 1024 {
			return step{at: at, why: api.ErrLong}
		}
	case 'L':
		all.names = append(all.names, text)
	case 'K':
		all.links = append(all.links, text)
	}
	all.heads = append(all.heads, at)
	return step{}
}

// last is the last of some texts, or another one, if there are none.
func last(l []string, other string) string {
	if len(l) == 0 {
		return other
	}
	return l[len(l)-1]
}

// modelEntry is an entry whose header stands at a place.
func modelEntry(b string, at int, h api.Header, all told, globals map[string]string) step {
	p := over(globals, all.locals)
	say := func(key, other string) string {
		if value, there := p[key]; there {
			return value
		}
		return other
	}
	x := api.Item{Form: h.Form, Type: h.Type, Pairs: pairsOf(p), Head: at, From: append(all.heads, at)[0]}
	e := &x.Entry
	e.Name = say("path", last(all.names, header.Name(h)))
	e.Kind = modelKind(h, e.Name)
	if e.Kind == api.Symlink || e.Kind == api.HardLink {
		e.Link = say("linkpath", last(all.links, h.Link))
	}
	if e.Kind == api.Device {
		e.Type = h.Type
	}
	e.User, e.Group = say("uname", h.User), say("gname", h.Group)

	size := h.Size
	numbers := map[string]*int64{"size": &size, "uid": &h.UID, "gid": &h.GID}
	for _, key := range []string{"size", "uid", "gid"} {
		n := numbers[key]
		if value, there := p[key]; there {
			var why api.Errno
			if *n, why = pax.Number(value); why != api.OK {
				return step{at: at, why: why}
			}
		}
		if key != "size" && *n >= 1<<32 {
			return step{at: at, why: api.ErrBig}
		}
	}
	e.Meta = api.Meta{Mode: uint32(h.Mode % 4096), Uid: uint32(h.UID), Gid: uint32(h.GID), Time: h.Time}
	if value, there := p["mtime"]; there {
		var why api.Errno
		if e.Meta.Time, e.Meta.Nano, why = pax.Time(value); why != api.OK {
			return step{at: at, why: why}
		}
	}
	if !slices.Contains([]byte("123456"), h.Type) {
		x.Held = size
	}
	return modelData(b, x, p, size)
}

// modelKind is what a header of that name tells of.
func modelKind(h api.Header, name string) int {
	kind, known := map[byte]int{'0': api.File, '7': api.File, '1': api.HardLink, '2': api.Symlink, '5': api.Dir}[h.Type]
	switch {
	case h.Type == '0' && strings.HasSuffix(name, "/"):
		return api.Dir
	case known:
		return kind
	case h.Type == 'S' && h.Form == api.GNU:
		return api.File
	}
	return api.Device
}

// modelData is an entry whose data and maps are still to be looked at.
func modelData(b string, x api.Item, p map[string]string, whole int64) step {
	old := x.Type == 'S' && x.Form == api.GNU
	x.Data = x.Head + 512
	if old {
		l, size, follows, why := sparse.ReadOld([512]byte([]byte(b[x.Head:])))
		if why != api.OK {
			return step{at: x.Head, why: why}
		}
		for follows {
			if len(b) < x.Data+512 {
				return step{at: len(b), why: api.ErrShort}
			}
			var more []api.Range
			more, follows, why = sparse.ReadMore([512]byte([]byte(b[x.Data:])))
			if why != api.OK {
				return step{at: x.Data, why: why}
			}
			l = append(l, more...)
			x.Data += 512
		}
		x.Sparse, x.Map, whole = true, l, size
	}
	next := new(big.Int).Add(big.NewInt(x.Held), big.NewInt(511))
	next.Div(next, big.NewInt(512)).Mul(next, big.NewInt(512)).Add(next, big.NewInt(int64(x.Data)))
	if next.Cmp(big.NewInt(int64(len(b)))) > 0 {
		return step{at: len(b), why: api.ErrShort}
	}
	x.Next = int(next.Int64())
	pieces := x.Held
	if !old && x.Entry.Kind == api.File && p["GNU.sparse.major"] == "1" && p["GNU.sparse.minor"] == "0" {
		size, why := pax.Number(p["GNU.sparse.realsize"])
		if why != api.OK {
			return step{at: x.Head, why: why}
		}
		l, n, why := sparse.Read([]byte(b[x.Data : x.Data+int(x.Held)]))
		if why != api.OK {
			return step{at: x.Data, why: why}
		}
		x.Sparse, x.Map, whole = true, l, size
		pieces -= int64(n)
		if name, there := p["GNU.sparse.name"]; there {
			x.Entry.Name = name
		}
	}
	if x.Sparse && (!sparse.Valid(x.Map, whole) || places(x.Map).Cmp(big.NewInt(pieces)) != 0) {
		return step{at: x.Head, why: api.ErrSparse}
	}
	if x.Entry.Kind == api.File {
		x.Entry.Size = whole
	}
	return step{item: x, there: true, at: x.Next}
}

// places is how many bytes ranges have.
func places(l []api.Range) *big.Int {
	n := new(big.Int)
	for _, x := range l {
		n.Add(n, big.NewInt(x.To)).Sub(n, big.NewInt(x.From))
	}
	return n
}

// modelContent is P16.3 as the chapter says it.
func modelContent(b string, x api.Item) (string, api.Errno) {
	switch {
	case x.Entry.Kind != api.File || x.Entry.Size < 0 || x.Held < 0:
		return "", api.ErrArg
	case x.Entry.Size > 4194304:
		return "", api.ErrLong
	case x.Data < 0 || x.Data > len(b) || int64(len(b[x.Data:])) < x.Held:
		return "", api.ErrShort
	case !x.Sparse && x.Entry.Size != x.Held:
		return "", api.ErrArg
	case !x.Sparse:
		return b[x.Data : x.Data+int(x.Held)], api.OK
	case slices.ContainsFunc(x.Map, func(r api.Range) bool { return r.From < 0 || r.From > r.To }):
		return "", api.ErrArg
	}
	pieces := places(x.Map)
	if pieces.Cmp(big.NewInt(x.Held)) > 0 {
		return "", api.ErrArg
	}
	end := x.Data + int(x.Held)
	out, why := sparse.Spread([]byte(b[end-int(pieces.Int64()):end]), x.Map, x.Entry.Size)
	return string(out), why
}

const mark = 0xa5

var (
	spoiledRange = api.Range{From: -mark, To: mark}
	spoiledPair  = api.Pair{Key: "spoiled", Value: "spoiled"}
)

// spoil writes over all of a list, its room included.
func spoil[E any](l []E, mark E) {
	l = l[:cap(l)]
	for i := range l {
		l[i] = mark
	}
}

// spare is a list with marked room behind it, and whether both are still as they were.
func spare[E comparable](l []E, mark E) ([]E, func() bool) {
	full := slices.Concat(l, slices.Repeat([]E{mark}, 9))
	was := slices.Clone(full)
	return full[:len(l)], func() bool { return slices.Equal(full, was) }
}

// sameItem tells whether two items are one, empty lists and none being alike.
func sameItem(x, y api.Item) bool {
	return x.Entry == y.Entry && x.Form == y.Form && x.Type == y.Type &&
		x.From == y.From && x.Head == y.Head && x.Data == y.Data && x.Next == y.Next &&
		x.Held == y.Held && x.Sparse == y.Sparse && slices.Equal(x.Map, y.Map) && slices.Equal(x.Pairs, y.Pairs)
}

func sameItems(l, m []api.Item) bool {
	return slices.EqualFunc(l, m, sameItem)
}

// held holds New, Next, At, Globals, Read and Content of b to the model and to the rules of memory, what is read to P16.4 and P16.7, and answers what Read answers.
func held(t *testing.T, b string) ([]api.Item, int, api.Errno) {
	t.Helper()
	steps := modelSteps(b)
	end := steps[len(steps)-1]
	var want []api.Item
	for _, s := range steps[:len(steps)-1] {
		want = append(want, s.item)
	}
	heldSteps(t, b, steps)
	heldRead(t, b, want, end)
	heldPlaces(t, b, want)
	for _, x := range want {
		heldContent(t, b, x)
	}
	return want, end.at, end.why
}

// heldSteps goes through b step by step; what was handed in and what was answered is written over as soon as it can be.
func heldSteps(t *testing.T, b string, steps []step) {
	t.Helper()
	handed := []byte(b)
	r := reader.New(handed)
	spoil(handed, mark)
	if at, l := r.At(), r.Globals(); at != 0 || len(l) != 0 {
		t.Fatalf("behind New: %d %v", at, l)
	}
	end := steps[len(steps)-1]
	for i, s := range append(slices.Clone(steps), end, end, end) {
		x, there, why := r.Next()
		if !sameItem(x, s.item) || there != s.there || why != s.why {
			t.Fatalf("step %d: %+v %t %d, not %+v %t %d: %.3000q", i, x, there, why, s.item, s.there, s.why, b)
		}
		if r.At() != s.at {
			t.Fatalf("step %d: At %d, not %d: %.3000q", i, r.At(), s.at, b)
		}
		spoil(x.Map, spoiledRange)
		spoil(x.Pairs, spoiledPair)
		for range 2 {
			l := r.Globals()
			if !slices.Equal(l, s.globals) {
				t.Fatalf("step %d: Globals %v, not %v: %.3000q", i, l, s.globals, b)
			}
			spoil(l, spoiledPair)
		}
	}
}

// heldRead reads b twice, the first answer written over in between, list by list.
func heldRead(t *testing.T, b string, want []api.Item, end step) {
	t.Helper()
	handed, same := spare([]byte(b), mark)
	for range 2 {
		l, at, why := reader.Read(handed)
		if len(l) != len(want) || at != end.at || why != end.why {
			t.Fatalf("Read: %d entries, %d %d, not %d, %d %d: %.3000q", len(l), at, why, len(want), end.at, end.why, b)
		}
		for i, x := range l {
			if !sameItem(x, want[i]) {
				t.Fatalf("Read: the entry %d: %+v, not %+v: %.3000q", i, x, want[i], b)
			}
			spoil(x.Map, spoiledRange)
			spoil(x.Pairs, spoiledPair)
		}
	}
	if !same() {
		t.Fatalf("Read changed what it was handed: %.3000q", b)
	}
}

// heldPlaces holds entries to P16.4 and P16.7.
func heldPlaces(t *testing.T, b string, l []api.Item) {
	t.Helper()
	if len(l) > len(b)/512 {
		t.Fatalf("%d entries of %d bytes", len(l), len(b))
	}
	next := 0
	for _, x := range l {
		if x.From < next || x.Head < x.From || x.Data <= x.Head || x.Next < x.Data || x.Next > len(b) {
			t.Fatalf("places: %+v behind %d of %d", x, next, len(b))
		}
		for _, at := range []int{x.From, x.Head, x.Data, x.Next} {
			if at%512 != 0 {
				t.Fatalf("places: %+v", x)
			}
		}
		next = x.Next
		if _, why := reader.Content([]byte(b), x); x.Entry.Kind == api.File && x.Entry.Size <= 4194304 && why != api.OK {
			t.Fatalf("Content of %+v: %d", x, why)
		}
	}
}

// heldContent holds Content to the model and to the rules of memory, and answers what it answers.
func heldContent(t *testing.T, b string, x api.Item) (string, api.Errno) {
	t.Helper()
	want, refused := modelContent(b, x)
	handed, sameBytes := spare([]byte(b), mark)
	ranges, sameRanges := spare(x.Map, spoiledRange)
	pairs, samePairs := spare(x.Pairs, spoiledPair)
	y := x
	y.Map, y.Pairs = ranges, pairs
	for range 2 {
		out, why := reader.Content(handed, y)
		if string(out) != want || why != refused {
			t.Fatalf("Content of %+v: %.200q %d, not %.200q %d", x, out, why, want, refused)
		}
		spoil(out, mark)
	}
	if !sameBytes() || !sameRanges() || !samePairs() {
		t.Fatalf("Content of %+v changed what it was handed", x)
	}
	return want, refused
}

// holding is what held answers, if it is these names, place and error.
func holding(t *testing.T, b string, names []string, at int, why api.Errno) []api.Item {
	t.Helper()
	l, place, refused := held(t, b)
	var got []string
	for _, x := range l {
		got = append(got, x.Entry.Name)
	}
	if !slices.Equal(got, names) || place != at || refused != why {
		t.Fatalf("%.200q, %d %d, not %.200q, %d %d", got, place, refused, names, at, why)
	}
	return l
}

// record is a header's record.
func record(t *testing.T, h api.Header) string {
	t.Helper()
	r, why := header.Encode(h)
	if why != api.OK {
		t.Fatalf("%+v: %d", h, why)
	}
	return string(r[:])
}

// filled is data and what fills them up, which is no zeros.
func filled(data string) string {
	return data + strings.Repeat("#", (512-len(data)%512)%512)
}

// put is a header (if it does not say so: of Ustar, of the type 0, of the data's size) and its data.
func put(t *testing.T, h api.Header, data string) string {
	t.Helper()
	if h.Form == 0 {
		h.Form = api.Ustar
	}
	if h.Type == 0 {
		h.Type = '0'
	}
	if h.Size == 0 {
		h.Size = int64(len(data))
	}
	return record(t, h) + filled(data)
}

// with is an archive with other bytes in its record at a place, and the sum that is right then.
func with(b string, at int, other string) string {
	r := [512]byte([]byte(b))
	copy(r[at:], other)
	r = field.PutSum(r)
	return string(r[:]) + b[512:]
}

// lines is pairs' records, of keys and values in turn.
func lines(t *testing.T, said ...string) string {
	t.Helper()
	var l []api.Pair
	for pair := range slices.Chunk(said, 2) {
		l = append(l, api.Pair{Key: pair[0], Value: pair[1]})
	}
	b, why := pax.Print(l)
	if why != api.OK {
		t.Fatalf("%q: %d", said, why)
	}
	return string(b)
}

// tell is a header of a type that tells of others, in the form, and its data.
func tell(t *testing.T, form int, kind byte, data string) string {
	t.Helper()
	return put(t, api.Header{Form: form, Name: "told", Mode: 0o644, Type: kind}, data)
}

func global(t *testing.T, said ...string) string {
	t.Helper()
	return tell(t, api.Ustar, 'g', lines(t, said...))
}

func local(t *testing.T, said ...string) string {
	t.Helper()
	return tell(t, api.Ustar, 'x', lines(t, said...))
}

func longName(t *testing.T, name string) string {
	t.Helper()
	return tell(t, api.GNU, 'L', name+"\x00")
}

func longLink(t *testing.T, link string) string {
	t.Helper()
	return tell(t, api.GNU, 'K', link+"\x00")
}

// file is an ordinary one.
func file(t *testing.T, name, data string) string {
	t.Helper()
	return put(t, api.Header{Name: name, Mode: 0o644}, data)
}

// zeros are so many.
func zeros(n int) string {
	return string(bytes.Repeat([]byte{0}, n))
}

var forms = []int{api.V7, api.Ustar, api.GNU}
