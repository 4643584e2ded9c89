package writer_test

import (
	"bytes"
	"fmt"
	"math"
	"math/big"
	"slices"
	"strings"
	"testing"

	"satchel/api"
	"satchel/path"
	"satchel/reader"
	"satchel/writer"
)

// The model is chapter 17 read off as texts; of the layers below it calls path.Clean alone.

func zeros(n int) string {
	return strings.Repeat("\x00", n)
}

// filled is data and zeros up to whole records.
func filled(data string) string {
	return data + zeros((512-len(data)%512)%512)
}

// modelCheck is P17.1, line by line.
func modelCheck(x api.Packed) api.Errno {
	e := x.Entry
	clean, why := path.Clean(e.Name)
	if why != api.OK {
		return why
	}
	texts := []string{e.User, e.Group, e.Link}
	isLink := e.Kind == 3 || e.Kind == 4
	for _, fault := range []struct {
		there bool
		why   api.Errno
	}{
		{clean != e.Name, api.ErrArg},
		{e.Kind < 1 || e.Kind > 5, api.ErrOdd},
		{e.Kind == 5 && e.Type != '3' && e.Type != '4' && e.Type != '6', api.ErrOdd},
		{e.Meta.Mode > 4095 || e.Meta.Nano < 0 || e.Meta.Nano > 999999999 || e.Meta.Time == math.MinInt64, api.ErrArg},
		{slices.ContainsFunc(texts, func(s string) bool { return len(s) > 4096 }), api.ErrLong},
		{len(x.Data) > 4194304, api.ErrLong},
		{slices.ContainsFunc(texts, func(s string) bool { return strings.ContainsRune(s, 0) }), api.ErrArg},
		{isLink && e.Link == "", api.ErrArg},
		{!isLink && e.Link != "", api.ErrArg},
		{e.Kind != 5 && e.Type != 0, api.ErrArg},
		{int64(len(x.Data)) != e.Size, api.ErrBytes},
		{e.Kind != 2 && len(x.Data) > 0, api.ErrBytes},
	} {
		if fault.there {
			return fault.why
		}
	}
	return api.OK
}

func modelStyle(s api.Style) bool {
	return s.Form >= 1 && s.Form <= 4 && (s.Holes == 0 || s.Holes >= 1 && s.Form >= 3)
}

// modelCut is P13.3's Cut: false, if the name can't be cut.
func modelCut(name string) (string, string, bool) {
	if len(name) <= 100 {
		return "", name, true
	}
	for at := 155; at >= 1; at-- {
		if at < len(name) && name[at] == '/' && len(name)-at-1 >= 1 && len(name)-at-1 <= 100 {
			return name[:at], name[at+1:], true
		}
	}
	return "", "", false
}

// modelNumber is a number in so many bytes of octal digits, or else to the base 256, and whether that was needed.
func modelNumber(n int64, width int) (string, bool) {
	digits := fmt.Sprintf("%0*o", width-1, n)
	if n >= 0 && len(digits) == width-1 {
		return digits + "\x00", false
	}
	sign := new(big.Int).Lsh(big.NewInt(1), uint(8*width-1))
	v := new(big.Int).Mod(big.NewInt(n), sign)
	return string(v.Add(v, sign).FillBytes(make([]byte, width))), true
}

// modelRecord is a header's record, as the table of chapter 13 has it; false, if something does not fit.
func modelRecord(h api.Header) (string, bool) {
	fits := true
	text := func(s string, width int) string {
		fits = fits && len(s) <= width
		return (s + zeros(width))[:width]
	}
	number := func(n int64, width int) string {
		b, binary := modelNumber(n, width)
		fits = fits && (!binary || h.Form == api.GNU)
		return b
	}
	r := text(h.Name, 100) + number(h.Mode, 8) + number(h.UID, 8) + number(h.GID, 8) + number(h.Size, 12) + number(h.Time, 12) +
		"        " + string([]byte{h.Type}) + text(h.Link, 100)
	switch h.Form {
	case api.V7:
		r += zeros(8)
	case api.Ustar:
		r += "ustar\x0000"
	case api.GNU:
		r += "ustar  \x00"
	}
	if h.Form != api.V7 {
		r += text(h.User, 32) + text(h.Group, 32) + number(h.Major, 8) + number(h.Minor, 8) + text(h.Prefix, 155)
	}
	return summed(filled(r)), fits
}

// summed is a record with its sum.
func summed(r string) string {
	sum := 8 * 32
	for i := range 512 {
		if i < 148 || i > 155 {
			sum += int(r[i])
		}
	}
	return r[:148] + fmt.Sprintf("%06o\x00 ", sum) + r[156:]
}

// modelFind is the ranges of all bytes that are in no run of so many zeros.
func modelFind(data string, least int) [][2]int {
	var l [][2]int
	for at := 0; at < len(data); {
		run := len(data) - at - len(strings.TrimLeft(data[at:], "\x00"))
		if run >= least {
			at += run
			continue
		}
		n := max(run, 1)
		if len(l) > 0 && l[len(l)-1][1] == at {
			l[len(l)-1][1] += n
		} else {
			l = append(l, [2]int{at, at + n})
		}
		at += n
	}
	return l
}

// modelHoles is the map of a file with holes, and whether it is one.
func modelHoles(x api.Packed, s api.Style) ([][2]int, bool) {
	if s.Holes <= 0 || x.Entry.Kind != api.File || len(x.Data) == 0 {
		return nil, false
	}
	l := modelFind(string(x.Data), s.Holes)
	if len(l) > 65536 || len(l) == 1 && l[0] == [2]int{0, len(x.Data)} {
		return nil, false
	}
	return l, true
}

// modelJoin is the bytes at ranges.
func modelJoin(data []byte, l [][2]int) string {
	var b strings.Builder
	for _, r := range l {
		b.Write(data[r[0]:r[1]])
	}
	return b.String()
}

// modelMap is a map's text (15.2).
func modelMap(l [][2]int) string {
	var b strings.Builder
	fmt.Fprintf(&b, "%d\n", len(l))
	for _, r := range l {
		fmt.Fprintf(&b, "%d\n%d\n", r[0], r[1]-r[0])
	}
	return filled(b.String())
}

// modelOld is a record with a map and a size in GNU's old way (15.3), and the further records.
func modelOld(r string, l [][2]int, size int) string {
	slots := func(n int) string {
		b := ""
		for range min(n, len(l)) {
			b += fmt.Sprintf("%011o\x00%011o\x00", l[0][0], l[0][1]-l[0][0])
			l = l[1:]
		}
		b += zeros(24*n - len(b))
		if len(l) > 0 {
			return b + "\x01"
		}
		return b + "\x00"
	}
	r = r[:386] + slots(4) + fmt.Sprintf("%011o\x00", size) + r[495:]
	var b strings.Builder
	b.WriteString(summed(r))
	for len(l) > 0 {
		b.WriteString(filled(slots(21)))
	}
	return b.String()
}

// modelTime is a time's text (14.3): whole numbers of nanoseconds, without bounds.
func modelTime(m api.Meta) string {
	n := new(big.Int).Mul(big.NewInt(m.Time), big.NewInt(1e9))
	n.Add(n, big.NewInt(int64(m.Nano)))
	sign := ""
	if n.Sign() < 0 {
		sign = "-"
		n.Neg(n)
	}
	whole, rest := new(big.Int).DivMod(n, big.NewInt(1e9), new(big.Int))
	if rest.Sign() == 0 {
		return sign + whole.String()
	}
	return strings.TrimRight(fmt.Sprintf("%s%s.%09d", sign, whole, rest), "0")
}

// modelPairs is the table of P17.3.
func modelPairs(x api.Packed, s api.Style) ([]api.Pair, api.Errno) {
	if why := modelCheck(x); why != api.OK {
		return nil, why
	}
	if !modelStyle(s) {
		return nil, api.ErrArg
	}
	if s.Form != api.Pax {
		return nil, api.OK
	}
	e := x.Entry
	_, holed := modelHoles(x, s)
	_, _, cut := modelCut(e.Name)
	var l []api.Pair
	for _, row := range []struct {
		key, value string
		needed     bool
	}{
		{"GNU.sparse.major", "1", holed},
		{"GNU.sparse.minor", "0", holed},
		{"GNU.sparse.name", e.Name, holed},
		{"GNU.sparse.realsize", fmt.Sprint(e.Size), holed},
		{"gid", fmt.Sprint(e.Meta.Gid), e.Meta.Gid > 2097151},
		{"uid", fmt.Sprint(e.Meta.Uid), e.Meta.Uid > 2097151},
		{"gname", e.Group, len(e.Group) > 32},
		{"uname", e.User, len(e.User) > 32},
		{"linkpath", e.Link, len(e.Link) > 100},
		{"mtime", modelTime(e.Meta), e.Meta.Nano != 0 || e.Meta.Time < 0 || e.Meta.Time > 8589934591},
		{"path", e.Name, !cut},
	} {
		if row.needed {
			l = append(l, api.Pair{Key: row.key, Value: row.value})
		}
	}
	slices.SortFunc(l, func(a, b api.Pair) int { return strings.Compare(a.Key, b.Key) })
	return l, api.OK
}

// modelLine is a pair's record with the least length that is right.
func modelLine(p api.Pair) string {
	for n := len(p.Key + p.Value); ; n++ {
		if line := fmt.Sprintf("%d %s=%s\n", n, p.Key, p.Value); len(line) == n {
			return line
		}
	}
}

// modelHeader is an entry's header, as far as V7, Ustar and GNU say the same.
func modelHeader(e api.Entry, form int) api.Header {
	return api.Header{
		Form: form, Name: e.Name, Mode: int64(e.Meta.Mode), UID: int64(e.Meta.Uid), GID: int64(e.Meta.Gid), Size: e.Size, Time: e.Meta.Time,
		Type: []byte{0, '5', '0', '2', '1', e.Type}[e.Kind], Link: e.Link, User: e.User, Group: e.Group,
	}
}

// modelPut is the records of an entry.
func modelPut(x api.Packed, s api.Style) (string, api.Errno) {
	pairs, why := modelPairs(x, s)
	if why != api.OK {
		return "", why
	}
	e := x.Entry
	if s.Form == api.Pax {
		return modelPax(x, s, pairs), api.OK
	}
	if e.Meta.Nano != 0 || s.Form == api.V7 && (e.User != "" || e.Group != "") {
		return "", api.ErrFits
	}
	if s.Form == api.GNU {
		return modelGNU(x, s)
	}
	h := modelHeader(e, s.Form)
	if s.Form == api.Ustar {
		var cut bool
		if h.Prefix, h.Name, cut = modelCut(e.Name); !cut {
			return "", api.ErrFits
		}
	}
	r, fits := modelRecord(h)
	if !fits {
		return "", api.ErrFits
	}
	return r + filled(string(x.Data)), api.OK
}

func modelGNU(x api.Packed, s api.Style) (string, api.Errno) {
	h := modelHeader(x.Entry, api.GNU)
	ahead := ""
	if len(h.Name) > 100 {
		r, _ := modelRecord(api.Header{Form: api.GNU, Name: "././@LongLink", Type: 'L', Size: int64(len(h.Name)) + 1})
		ahead += r + filled(h.Name+"\x00")
		h.Name = h.Name[:100]
	}
	if len(h.Link) > 100 {
		r, _ := modelRecord(api.Header{Form: api.GNU, Name: "././@LongLink", Type: 'K', Size: int64(len(h.Link)) + 1})
		ahead += r + filled(h.Link+"\x00")
		h.Link = h.Link[:100]
	}
	l, holed := modelHoles(x, s)
	data := string(x.Data)
	if holed {
		data = modelJoin(x.Data, l)
		h.Type, h.Size = 'S', int64(len(data))
	}
	r, fits := modelRecord(h)
	if !fits {
		return "", api.ErrFits
	}
	if holed {
		r = modelOld(r, l, len(x.Data))
	}
	return ahead + r + filled(data), api.OK
}

func modelPax(x api.Packed, s api.Style, pairs []api.Pair) string {
	h := modelHeader(x.Entry, api.Ustar)
	h.Prefix, h.Name, _ = modelCut(h.Name)
	text := ""
	for _, p := range pairs {
		text += modelLine(p)
		switch p.Key {
		case "gid":
			h.GID = 0
		case "uid":
			h.UID = 0
		case "mtime":
			h.Time = 0
		case "gname":
			h.Group = p.Value[:32]
		case "uname":
			h.User = p.Value[:32]
		case "linkpath":
			h.Link = p.Value[:100]
		case "path":
			h.Name = p.Value[:100]
		}
	}
	ahead := ""
	if text != "" {
		r, _ := modelRecord(api.Header{Form: api.Ustar, Name: "@PaxHeader", Mode: 420, Type: 'x', Size: int64(len(text))})
		ahead = r + filled(text)
	}
	data := string(x.Data)
	if l, holed := modelHoles(x, s); holed {
		data = modelMap(l) + modelJoin(x.Data, l)
	}
	h.Size = int64(len(data))
	r, fits := modelRecord(h)
	if !fits {
		panic("of Pax nothing does not fit")
	}
	return ahead + r + filled(data)
}

// modelWrite is an archive of entries.
func modelWrite(l []api.Packed, s api.Style) (string, api.Errno) {
	var b strings.Builder
	for _, x := range l {
		own, why := modelPut(x, s)
		if why != api.OK {
			return "", why
		}
		b.WriteString(own)
	}
	if !modelStyle(s) {
		return "", api.ErrArg
	}
	return b.String() + zeros(1024), api.OK
}

const mark = 0xa5

// spoil writes over all of a list, its room included.
func spoil[E any](l []E, mark E) {
	l = l[:cap(l)]
	for i := range l {
		l[i] = mark
	}
}

// spare is a list with marked room behind it, and whether both are still as they were.
func spare(b []byte) ([]byte, func() bool) {
	full := append(slices.Clone(b), bytes.Repeat([]byte{mark}, 9)...)
	was := slices.Clone(full)
	return full[:len(b)], func() bool { return bytes.Equal(full, was) }
}

// held holds Check, Pairs and Put of an entry to the model and to the rules of memory, and what is written to what is read; it answers what Put answers.
func held(t *testing.T, x api.Packed, s api.Style) (string, api.Errno) {
	t.Helper()
	want, refused := modelPut(x, s)
	pairs, odd := modelPairs(x, s)
	checked := modelCheck(x)
	y := x
	var same func() bool
	y.Data, same = spare(x.Data)
	for range 2 {
		if why := writer.Check(y); why != checked {
			t.Fatalf("Check of %.400v: %d, not %d", x.Entry, why, checked)
		}
		l, why := writer.Pairs(y, s)
		if !slices.Equal(l, pairs) || why != odd {
			t.Fatalf("Pairs of %.400v, %v: %.400q %d, not %.400q %d", x.Entry, s, l, why, pairs, odd)
		}
		spoil(l, api.Pair{Key: "spoiled"})
		b, why := writer.Put(y, s)
		if string(b) != want || why != refused {
			t.Fatalf("Put of %.400v, %v: %d bytes, %d, not %d bytes, %d: %s", x.Entry, s, len(b), why, len(want), refused, parting(string(b), want))
		}
		spoil(b, mark)
	}
	if !same() {
		t.Fatalf("what was handed in was changed: %.400v, %v", x.Entry, s)
	}
	if refused == api.OK {
		heldBack(t, []api.Packed{x}, s, want+zeros(1024))
	}
	return want, refused
}

// parting tells where two texts part.
func parting(got, want string) string {
	for i := range min(len(got), len(want)) {
		if got[i] != want[i] {
			return fmt.Sprintf("at %d %.100q, not %.100q", i, got[i:], want[i:])
		}
	}
	return "one is the other's beginning"
}

// heldBack holds an archive to P17.6: it is read as the entries that were written.
func heldBack(t *testing.T, l []api.Packed, s api.Style, b string) []api.Item {
	t.Helper()
	items, at, why := reader.Read([]byte(b))
	if why != api.OK || at != len(b)-1024 || len(items) != len(l) {
		t.Fatalf("read back in %v: %d entries of %d, %d of %d, %d", s, len(items), len(l), at, len(b), why)
	}
	next := 0
	for i, x := range items {
		if x.Entry != l[i].Entry {
			t.Fatalf("read back in %v: %.400v, not %.400v", s, x.Entry, l[i].Entry)
		}
		if x.From != next {
			t.Fatalf("read back in %v: from %d, not %d", s, x.From, next)
		}
		next = x.Next
		if l[i].Entry.Kind != api.File {
			continue
		}
		if data, why := reader.Content([]byte(b), x); why != api.OK || !bytes.Equal(data, l[i].Data) {
			t.Fatalf("read back in %v: %d bytes, %d", s, len(data), why)
		}
	}
	if next != at {
		t.Fatalf("read back in %v: the last one ends at %d, not %d", s, next, at)
	}
	return items
}

// heldWrite holds Write of entries to the model, to Put of each and End, to the rules of memory, and to what is read; it answers what Write answers.
func heldWrite(t *testing.T, l []api.Packed, s api.Style) (string, api.Errno) {
	t.Helper()
	want, refused := modelWrite(l, s)
	full := make([]api.Packed, len(l)+2)
	handed := full[:len(l)]
	var same []func() bool
	for i, x := range l {
		data, still := spare(x.Data)
		handed[i] = api.Packed{Entry: x.Entry, Data: data}
		same = append(same, still)
	}
	one := ""
	for range 2 {
		b, why := writer.Write(handed, s)
		if string(b) != want || why != refused {
			t.Fatalf("Write of %d in %v: %d bytes, %d, not %d bytes, %d: %s", len(l), s, len(b), why, len(want), refused, parting(string(b), want))
		}
		spoil(b, mark)
	}
	for i, x := range l {
		if handed[i].Entry != x.Entry || !same[i]() {
			t.Fatalf("Write of %d in %v changed the entry %d", len(l), s, i)
		}
		b, _ := writer.Put(x, s)
		one += string(b)
	}
	for _, x := range full[len(l):] {
		if x.Entry != (api.Entry{}) || x.Data != nil {
			t.Fatalf("Write of %d in %v wrote into the room behind them", len(l), s)
		}
	}
	if refused != api.OK {
		return want, refused
	}
	if one+string(writer.End()) != want {
		t.Fatalf("Write of %d in %v is not Put of each and End", len(l), s)
	}
	heldBack(t, l, s, want)
	return want, refused
}

var forms = []int{api.V7, api.Ustar, api.GNU, api.Pax}

// file is a file of that name.
func file(name, data string) api.Packed {
	return api.Packed{Entry: api.Entry{Name: name, Kind: api.File, Meta: api.Meta{Mode: 0o644}, Size: int64(len(data))}, Data: []byte(data)}
}

// bare is something without bytes, as little of it as there can be.
func bare(kind int) api.Packed {
	e := api.Entry{Name: "n", Kind: kind}
	switch kind {
	case api.Symlink, api.HardLink:
		e.Link = "l"
	case api.Device:
		e.Type = '3'
	}
	return api.Packed{Entry: e}
}

// putting holds an entry, and Put of it to so many bytes and to an error.
func putting(t *testing.T, x api.Packed, s api.Style, n int, why api.Errno) string {
	t.Helper()
	b, refused := held(t, x, s)
	if len(b) != n || refused != why {
		t.Errorf("%.200v, %v: %d bytes, %d, not %d, %d", x.Entry, s, len(b), refused, n, why)
	}
	return b
}
