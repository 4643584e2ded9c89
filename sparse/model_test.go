package sparse_test

import (
	"bytes"
	"math/big"
	"math/rand"
	"regexp"
	"slices"
	"strconv"
	"strings"
	"testing"

	"satchel/api"
	"satchel/field"
	"satchel/sparse"
)

var (
	wholeNumber = regexp.MustCompile(`\A(0|[1-9][0-9]*)\n`)
	openNumber  = regexp.MustCompile(`\A(?:0|[1-9][0-9]*)?\z`)
	greatest    = big.NewInt(api.MaxSize)
)

// modelValid is P15.1 as the chapter says it.
func modelValid(l []api.Range, size int64) bool {
	if size < 0 || len(l) > 65536 {
		return false
	}
	for i, x := range l {
		if x.From < 0 || x.From > x.To || x.To > size {
			return false
		}
		if i > 0 && x.From < l[i-1].To {
			return false
		}
	}
	return true
}

// inHole tells of each byte whether it is in a hole.
func inHole(b []byte, least int) []bool {
	holes := make([]bool, len(b))
	for i := range b {
		from, to := i, i
		for from > 0 && b[from-1] == 0 {
			from--
		}
		for to < len(b) && b[to] == 0 {
			to++
		}
		holes[i] = b[i] == 0 && to-from >= least
	}
	return holes
}

// modelFind is P15.1 as the chapter says it.
func modelFind(b []byte, least int) []api.Range {
	var l []api.Range
	holes := inHole(b, max(least, 1))
	for i, hole := range holes {
		if hole {
			continue
		}
		if i == 0 || holes[i-1] {
			l = append(l, api.Range{From: int64(i)})
		}
		l[len(l)-1].To = int64(i) + 1
	}
	return l
}

// modelJoin is P15.2 as the chapter says it.
func modelJoin(b []byte, l []api.Range) ([]byte, api.Errno) {
	if !modelValid(l, int64(len(b))) {
		return nil, api.ErrArg
	}
	var data []byte
	for i, c := range b {
		if within(l, int64(i)) {
			data = append(data, c)
		}
	}
	return data, api.OK
}

// modelSpread is P15.2 as the chapter says it.
func modelSpread(data []byte, l []api.Range, size int64) ([]byte, api.Errno) {
	if !modelValid(l, size) || size > 4194304 {
		return nil, api.ErrArg
	}
	var b []byte
	taken := 0
	for i := range size {
		var c byte
		if within(l, i) {
			if taken < len(data) {
				c = data[taken]
			}
			taken++
		}
		b = append(b, c)
	}
	if taken != len(data) {
		return nil, api.ErrArg
	}
	return b, api.OK
}

// within tells whether a place is in one of the ranges.
func within(l []api.Range, place int64) bool {
	return slices.ContainsFunc(l, func(x api.Range) bool { return x.From <= place && place < x.To })
}

// modelPut is P15.3 as the chapter says it.
func modelPut(l []api.Range) ([]byte, api.Errno) {
	if !modelValid(l, api.MaxSize) {
		return nil, api.ErrArg
	}
	var s strings.Builder
	s.WriteString(strconv.Itoa(len(l)) + "\n")
	for _, x := range l {
		s.WriteString(big.NewInt(x.From).String() + "\n" + big.NewInt(x.To-x.From).String() + "\n")
	}
	return filled(s.String()), api.OK
}

// filled is a text and as few zeros as make it whole records.
func filled(s string) []byte {
	records := (len(s) + 511) / 512
	return append([]byte(s), make([]byte, 512*records-len(s))...)
}

// modelNumber is the number that b begins with, and how many bytes it has, its line feed counted in.
func modelNumber(b []byte) (*big.Int, int, api.Errno) {
	text, refused := b, api.ErrShort
	if m := wholeNumber.FindSubmatch(b); m != nil {
		text, refused = m[1], api.OK
	} else if !openNumber.Match(b) {
		return nil, 0, api.ErrForm
	}
	n, _ := new(big.Int).SetString("0"+string(text), 10)
	if n.Cmp(greatest) > 0 {
		refused = api.ErrForm
	}
	return n, len(text) + 1, refused
}

// modelRead is P15.3 as the chapter says it.
func modelRead(b []byte) ([]api.Range, int, api.Errno) {
	count, at, why := modelNumber(b)
	if why != api.OK {
		return nil, 0, why
	}
	if count.Cmp(big.NewInt(65536)) > 0 {
		return nil, 0, api.ErrLong
	}
	var l []api.Range
	end := new(big.Int)
	for range int(count.Int64()) {
		from, n, why := modelNumber(b[at:])
		if why != api.OK {
			return nil, 0, why
		}
		at += n
		length, n, why := modelNumber(b[at:])
		if why != api.OK {
			return nil, 0, why
		}
		at += n
		to := new(big.Int).Add(from, length)
		if to.Cmp(greatest) > 0 || from.Cmp(end) < 0 {
			return nil, 0, api.ErrForm
		}
		l, end = append(l, api.Range{From: from.Int64(), To: to.Int64()}), to
	}
	whole := (at + 511) / 512 * 512
	if strings.Trim(string(b[at:min(whole, len(b))]), "\x00") != "" {
		return nil, 0, api.ErrForm
	}
	if whole > len(b) {
		return nil, 0, api.ErrShort
	}
	return l, whole, api.OK
}

// twelve is a number as field.PutNumber has it in twelve bytes.
func twelve(n int64) string {
	b, why := field.PutNumber(n, 12)
	if why != api.OK {
		panic("a number that does not fit: " + strconv.FormatInt(n, 10))
	}
	return string(b)
}

// modelSlots is ranges as records have them, zeros up to so many.
func modelSlots(l []api.Range, room int) string {
	var s strings.Builder
	for _, x := range l {
		s.WriteString(twelve(x.From) + twelve(x.To-x.From))
	}
	s.WriteString(strings.Repeat("\x00", 24*(room-len(l))))
	return s.String()
}

// modelPutOld is P15.4 as the chapter says it.
func modelPutOld(r [512]byte, l []api.Range, size int64) ([512]byte, [][512]byte, api.Errno) {
	if !modelValid(l, size) {
		return r, nil, api.ErrArg
	}
	follows := map[bool]string{false: "\x00", true: "\x01"}
	n := min(len(l), 4)
	copy(r[386:], modelSlots(l[:n], 4)+follows[len(l) > 4]+twelve(size))
	var more [][512]byte
	for l = l[n:]; len(l) > 0; l = l[n:] {
		n = min(len(l), 21)
		more = append(more, [512]byte(filled(modelSlots(l[:n], 21)+follows[len(l) > 21])))
	}
	return r, more, api.OK
}

// modelRanges is the ranges of a record, from a place on, at most so many, as P15.5 says it.
func modelRanges(r [512]byte, from, room int) ([]api.Range, api.Errno) {
	var l []api.Range
	for ; room > 0 && strings.Trim(string(r[from:from+24]), "\x00") != ""; room-- {
		begin, why := modelField(r[from : from+12])
		if why != api.OK {
			return nil, why
		}
		length, why := modelField(r[from+12 : from+24])
		if why != api.OK {
			return nil, why
		}
		to := new(big.Int).Add(big.NewInt(begin), big.NewInt(length))
		if to.Cmp(greatest) > 0 {
			return nil, api.ErrForm
		}
		l = append(l, api.Range{From: begin, To: to.Int64()})
		from += 24
	}
	return l, api.OK
}

// modelField is a number of a record, as P15.5 says it.
func modelField(b []byte) (int64, api.Errno) {
	n, why := field.Number(b)
	if why == api.OK && n < 0 {
		return 0, api.ErrForm
	}
	return n, why
}

// modelReadOld is P15.5 as the chapter says it.
func modelReadOld(r [512]byte) ([]api.Range, int64, bool, api.Errno) {
	l, why := modelRanges(r, 386, 4)
	if why != api.OK {
		return nil, 0, false, why
	}
	size, why := modelField(r[483:495])
	if why != api.OK {
		return nil, 0, false, why
	}
	return l, size, r[482] != 0, api.OK
}

// modelReadMore is P15.5 as the chapter says it.
func modelReadMore(r [512]byte) ([]api.Range, bool, api.Errno) {
	l, why := modelRanges(r, 0, 21)
	return l, why == api.OK && r[504] != 0, why
}

const mark = 0xa5

var spoiled = api.Range{From: -mark, To: mark}

// spare is a list with marked room behind it, and whether both are still as they were.
func spare[E comparable](l []E, mark E) ([]E, func() bool) {
	full := slices.Concat(l, slices.Repeat([]E{mark}, 9))
	was := slices.Clone(full)
	return full[:len(l)], func() bool { return slices.Equal(full, was) }
}

// spoil writes over all of a list, its room included.
func spoil[E any](l []E, mark E) {
	l = l[:cap(l)]
	for i := range l {
		l[i] = mark
	}
}

// heldValid holds Valid to the model.
func heldValid(t *testing.T, l []api.Range, size int64) bool {
	t.Helper()
	list, same := spare(l, spoiled)
	want := modelValid(l, size)
	if got := sparse.Valid(list, size); got != want {
		t.Fatalf("Valid(%.200v, %d): %t", l, size, got)
	}
	if !same() {
		t.Fatalf("Valid(%.200v, %d) changed what it was handed", l, size)
	}
	return want
}

// heldFind holds Find to the model, twice, the first answer written over in between, and to P15.8 and P15.6.
func heldFind(t *testing.T, b []byte, least int) []api.Range {
	t.Helper()
	want := modelFind(b, least)
	list, same := spare(b, mark)
	for range 2 {
		l := sparse.Find(list, least)
		if !slices.Equal(l, want) {
			t.Fatalf("Find(%.200q, %d): %.200v, not %.200v", b, least, l, want)
		}
		spoil(l, spoiled)
	}
	if !same() {
		t.Fatalf("Find(%.200q, %d) changed what it was handed", b, least)
	}
	l := sparse.Find(b, least)
	heldLeast(t, b, l, least)
	heldRound(t, b, l)
	return l
}

// heldLeast holds the ranges that were found to P15.8, and to P15.1: none is empty or touches another one.
func heldLeast(t *testing.T, b []byte, l []api.Range, least int) {
	t.Helper()
	var end int64 = -1
	for _, x := range l {
		if x.From <= end || x.From == x.To {
			t.Fatalf("Find(%.200q, %d): %v is empty or touches", b, least, x)
		}
		end = x.To
		for _, run := range bytes.FieldsFunc(b[x.From:x.To], func(c rune) bool { return c != 0 }) {
			if len(run) >= max(least, 1) {
				t.Fatalf("Find(%.200q, %d): a hole in %v", b, least, x)
			}
		}
	}
}

// heldRound holds Join and Spread of a map that holds all bytes but zeros to P15.6.
func heldRound(t *testing.T, b []byte, l []api.Range) {
	t.Helper()
	data, why := sparse.Join(b, l)
	if why != api.OK {
		t.Fatalf("Join(%.200q, %.200v): %d", b, l, why)
	}
	again, why := sparse.Spread(data, l, int64(len(b)))
	if why != api.OK || !bytes.Equal(again, b) {
		t.Fatalf("Spread of Join(%.200q, %.200v): %.200q %d", b, l, again, why)
	}
}

// heldJoin holds Join to the model: twice, the first answer written over in between, and then the bytes.
func heldJoin(t *testing.T, b []byte, l []api.Range) ([]byte, api.Errno) {
	t.Helper()
	want, refused := modelJoin(b, l)
	list, sameBytes := spare(b, mark)
	ranges, sameRanges := spare(l, spoiled)
	for range 2 {
		data, why := sparse.Join(list, ranges)
		if !bytes.Equal(data, want) || why != refused {
			t.Fatalf("Join(%.200q, %.200v): %.200q %d, not %.200q %d", b, l, data, why, want, refused)
		}
		spoil(data, mark)
	}
	if !sameBytes() || !sameRanges() {
		t.Fatalf("Join(%.200q, %.200v) changed what it was handed", b, l)
	}
	data, _ := sparse.Join(list, ranges)
	spoil(list, mark)
	if !bytes.Equal(data, want) {
		t.Fatalf("Join(%.200q, %.200v) shares the bytes", b, l)
	}
	return want, refused
}

// heldSpread holds Spread to the model: twice, the first answer written over in between, and then the data.
func heldSpread(t *testing.T, data []byte, l []api.Range, size int64) ([]byte, api.Errno) {
	t.Helper()
	want, refused := modelSpread(data, l, size)
	list, sameBytes := spare(data, mark)
	ranges, sameRanges := spare(l, spoiled)
	for range 2 {
		b, why := sparse.Spread(list, ranges, size)
		if !bytes.Equal(b, want) || why != refused {
			t.Fatalf("Spread(%.200q, %.200v, %d): %.200q %d, not %.200q %d", data, l, size, b, why, want, refused)
		}
		spoil(b, mark)
	}
	if !sameBytes() || !sameRanges() {
		t.Fatalf("Spread(%.200q, %.200v, %d) changed what it was handed", data, l, size)
	}
	b, _ := sparse.Spread(list, ranges, size)
	spoil(list, mark)
	if !bytes.Equal(b, want) {
		t.Fatalf("Spread(%.200q, %.200v, %d) shares the data", data, l, size)
	}
	return want, refused
}

// heldPut holds Put to the model, twice, the first answer written over in between, and what it answers to P15.7.
func heldPut(t *testing.T, l []api.Range) ([]byte, api.Errno) {
	t.Helper()
	want, refused := modelPut(l)
	ranges, same := spare(l, spoiled)
	for range 2 {
		b, why := sparse.Put(ranges)
		if !bytes.Equal(b, want) || why != refused {
			t.Fatalf("Put(%.200v): %.200q %d, not %.200q %d", l, b, why, want, refused)
		}
		spoil(b, mark)
	}
	if !same() {
		t.Fatalf("Put(%.200v) changed what it was handed", l)
	}
	if refused == api.OK {
		again, n, why := sparse.Read(want)
		if !slices.Equal(again, l) || n != len(want) || why != api.OK {
			t.Fatalf("Read of Put(%.200v): %.200v %d %d", l, again, n, why)
		}
	}
	return want, refused
}

// heldRead holds Read to the model, twice, the first answer written over in between, and what it answers to P15.7.
func heldRead(t *testing.T, b []byte) ([]api.Range, int, api.Errno) {
	t.Helper()
	want, size, refused := modelRead(b)
	list, same := spare(b, mark)
	for range 2 {
		l, n, why := sparse.Read(list)
		if !slices.Equal(l, want) || n != size || why != refused {
			t.Fatalf("Read(%.200q): %.200v %d %d, not %.200v %d %d", b, l, n, why, want, size, refused)
		}
		spoil(l, spoiled)
	}
	if !same() {
		t.Fatalf("Read(%.200q) changed what it was handed", b)
	}
	if refused == api.OK {
		again, why := sparse.Put(want)
		if !bytes.Equal(again, b[:size]) || why != api.OK {
			t.Fatalf("Put of Read(%.200q): %.200q %d", b, again, why)
		}
	}
	return want, size, refused
}

// heldPutOld holds PutOld to the model, twice, the first answer written over in between, and what it answers to P15.7.
func heldPutOld(t *testing.T, r [512]byte, l []api.Range, size int64) ([512]byte, [][512]byte, api.Errno) {
	t.Helper()
	first, more, refused := modelPutOld(r, l, size)
	ranges, same := spare(l, spoiled)
	for range 2 {
		got, further, why := sparse.PutOld(r, ranges, size)
		if got != first || !slices.Equal(further, more) || why != refused {
			t.Fatalf("PutOld(.., %.200v, %d): %q %.900q %d, not %q %.900q %d", l, size, got, further, why, first, more, refused)
		}
		spoil(further, [512]byte(bytes.Repeat([]byte{mark}, 512)))
	}
	if !same() {
		t.Fatalf("PutOld(.., %.200v, %d) changed what it was handed", l, size)
	}
	if refused == api.OK {
		heldBack(t, first, more, l, size)
	}
	return first, more, refused
}

// heldBack holds what ReadOld and ReadMore tell of records to P15.7.
func heldBack(t *testing.T, first [512]byte, more [][512]byte, l []api.Range, size int64) {
	t.Helper()
	got, told, follows, why := sparse.ReadOld(first)
	if told != size || why != api.OK {
		t.Fatalf("ReadOld of PutOld(.., %.200v, %d): %d %d", l, size, told, why)
	}
	for i, r := range more {
		if !follows {
			t.Fatalf("the record %d of PutOld(.., %.200v, %d) does not follow", i, l, size)
		}
		var further []api.Range
		further, follows, why = sparse.ReadMore(r)
		if why != api.OK {
			t.Fatalf("ReadMore of PutOld(.., %.200v, %d): %d", l, size, why)
		}
		got = append(got, further...)
	}
	if follows || !slices.Equal(got, l) {
		t.Fatalf("back from PutOld(.., %.200v, %d): %.200v %t", l, size, got, follows)
	}
}

// heldReadOld holds ReadOld to the model, twice, the first answer written over in between.
func heldReadOld(t *testing.T, r [512]byte) ([]api.Range, int64, bool, api.Errno) {
	t.Helper()
	want, whole, more, refused := modelReadOld(r)
	for range 2 {
		l, size, follows, why := sparse.ReadOld(r)
		if !slices.Equal(l, want) || size != whole || follows != more || why != refused {
			t.Fatalf("ReadOld(%q): %v %d %t %d, not %v %d %t %d", r, l, size, follows, why, want, whole, more, refused)
		}
		spoil(l, spoiled)
	}
	return want, whole, more, refused
}

// heldReadMore holds ReadMore to the model, twice, the first answer written over in between.
func heldReadMore(t *testing.T, r [512]byte) ([]api.Range, bool, api.Errno) {
	t.Helper()
	want, more, refused := modelReadMore(r)
	for range 2 {
		l, follows, why := sparse.ReadMore(r)
		if !slices.Equal(l, want) || follows != more || why != refused {
			t.Fatalf("ReadMore(%q): %v %t %d, not %v %t %d", r, l, follows, why, want, more, refused)
		}
		spoil(l, spoiled)
	}
	return want, more, refused
}

// ranges is the ranges of these numbers, taken two by two.
func ranges(n ...int64) []api.Range {
	var l []api.Range
	for pair := range slices.Chunk(n, 2) {
		l = append(l, api.Range{From: pair[0], To: pair[1]})
	}
	return l
}

// many is so many ranges of a byte each, with a place between.
func many(n int) []api.Range {
	var l []api.Range
	for i := range int64(n) {
		l = append(l, api.Range{From: 2 * i, To: 2*i + 1})
	}
	return l
}

// chanceMap is a map by chance of at most so many ranges, small or great numbers in it, and a size that it can be of.
func chanceMap(r *rand.Rand, most int) ([]api.Range, int64) {
	places := make([]int64, 2*r.Intn(most+1), 2*most+1)
	shift := []int{60, 55, 40, 30, 10, 0}[r.Intn(6)]
	for i := range places {
		places[i] = r.Int63() >> shift
	}
	slices.Sort(places)
	l := ranges(places...)
	if len(l) == 0 {
		return nil, r.Int63() >> shift
	}
	end := places[len(places)-1]
	return l, end + min(api.MaxSize-end, r.Int63()>>r.Intn(63))
}

// texts are all texts of so many of the bytes.
func texts(from string, n int) []string {
	l := []string{""}
	for range n {
		var longer []string
		for _, text := range l {
			for i := range len(from) {
				longer = append(longer, text+from[i:i+1])
			}
		}
		l = longer
	}
	return l
}
