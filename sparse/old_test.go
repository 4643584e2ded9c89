package sparse_test

import (
	"bytes"
	"math"
	"math/rand"
	"slices"
	"strings"
	"testing"

	"satchel/api"
	"satchel/sparse"
)

// full is a record of one byte.
func full(x byte) [512]byte {
	return [512]byte(bytes.Repeat([]byte{x}, 512))
}

// with is the record with these bytes at a place.
func with(r [512]byte, at int, s string) [512]byte {
	copy(r[at:at+len(s)], s)
	return r
}

// P15.4: where each number stands, in octal and, beyond eleven digits, in base 256.
func TestPutOldPlaces(t *testing.T) {
	r, more, why := heldPutOld(t, [512]byte{}, ranges(1, 3, 8, 16, 64, 64, 1<<33, 1<<34), 1<<34+5)
	want := strings.Repeat("\x00", 386) +
		"00000000001\x0000000000002\x00" +
		"00000000010\x0000000000010\x00" +
		"00000000100\x0000000000000\x00" +
		"\x80\x00\x00\x00\x00\x00\x00\x02\x00\x00\x00\x00" + "\x80\x00\x00\x00\x00\x00\x00\x02\x00\x00\x00\x00" +
		"\x00" +
		"\x80\x00\x00\x00\x00\x00\x00\x04\x00\x00\x00\x05" +
		strings.Repeat("\x00", 17)
	if string(r[:]) != want || len(more) != 0 || why != api.OK {
		t.Errorf("%q %d %d", r, len(more), why)
	}
	r, more, why = heldPutOld(t, [512]byte{}, ranges(0, 0, 1, 1, 2, 2, 3, 3, 4, 5), 9)
	if len(more) != 1 || why != api.OK {
		t.Fatalf("five ranges: %d %d", len(more), why)
	}
	if r[482] != 1 || string(r[483:495]) != "00000000011\x00" || string(r[386:398]) != "00000000000\x00" {
		t.Errorf("five ranges: %q", r)
	}
	if further := "00000000004\x0000000000001\x00" + strings.Repeat("\x00", 488); string(more[0][:]) != further {
		t.Errorf("five ranges: %q", more[0])
	}
}

// P15.4: how many further records there are, and the bytes that tell of them; over records of zeros and of others.
func TestPutOldCounts(t *testing.T) {
	for _, x := range []struct{ ranges, records int }{
		{0, 0}, {1, 0}, {2, 0}, {3, 0}, {4, 0},
		{5, 1}, {6, 1}, {24, 1}, {25, 1},
		{26, 2}, {27, 2}, {46, 2}, {47, 3}, {67, 3}, {68, 4},
		{65536, 3121},
	} {
		for _, under := range [][512]byte{full(0), full(1), full(0xff), full('7')} {
			r, more, why := heldPutOld(t, under, many(x.ranges), 131072)
			if len(more) != x.records || why != api.OK {
				t.Fatalf("%d ranges: %d records, %d", x.ranges, len(more), why)
			}
			if (r[482] == 1) != (x.records > 0) || r[482] > 1 {
				t.Errorf("%d ranges: %d at 482", x.ranges, r[482])
			}
			for i, m := range more {
				last := i == len(more)-1
				if (m[504] == 1) == last || m[504] > 1 || strings.Trim(string(m[505:]), "\x00") != "" {
					t.Errorf("%d ranges: %q at 504 of %d", x.ranges, m[504:], i)
				}
			}
		}
	}
}

// P15.4: what stood in the record, in the ranges' places too, is gone there, and stays elsewhere.
func TestPutOldOver(t *testing.T) {
	for n := range 6 {
		under := full(0xee)
		r, _, _ := heldPutOld(t, under, many(n), 11)
		if string(r[:386]) != string(under[:386]) || string(r[495:]) != string(under[495:]) {
			t.Errorf("%d ranges: changed elsewhere", n)
		}
		if free := r[386+24*min(n, 4) : 482]; strings.Trim(string(free), "\x00") != "" {
			t.Errorf("%d ranges: %q behind them", n, free)
		}
		again, _, _ := heldPutOld(t, r, nil, 0)
		if strings.Trim(string(again[386:483]), "\x00") != "" || string(again[483:495]) != "00000000000\x00" {
			t.Errorf("%d ranges and then none: %q", n, again[386:495])
		}
	}
}

// P15.4: numbers at the edges of what a width of twelve has in octal, and the greatest: each of them fits.
func TestPutOldNumbers(t *testing.T) {
	for _, n := range []int64{0, 1, 7, 8, 1<<32 - 1, 1 << 32, 1<<33 - 1, 1 << 33, 1<<33 + 1, 1<<62 - 1, 1 << 62, api.MaxSize - 1, api.MaxSize} {
		for _, l := range [][]api.Range{nil, ranges(0, n), ranges(n, n), ranges(0, 0, n/2, n), ranges(0, n/3, n/3, n/2, n/2, n/2, n/2, n, n, n, n, n)} {
			if _, _, why := heldPutOld(t, full(0), l, n); why != api.OK {
				t.Errorf("%v of %d: %d", l, n, why)
			}
			if _, _, why := heldPutOld(t, full(9), l, api.MaxSize); why != api.OK {
				t.Errorf("%v of MaxSize: %d", l, why)
			}
		}
	}
}

// P15.4: with maps that can't be the record is answered as it was.
func TestPutOldArg(t *testing.T) {
	for _, x := range []struct {
		l    []api.Range
		size int64
	}{
		{nil, -1},
		{nil, math.MinInt64},
		{ranges(0, 2), 1},
		{ranges(2, 2), 1},
		{ranges(0, 2, 1, 3), 9},
		{ranges(4, 5, 0, 1), 9},
		{ranges(-1, 0), 9},
		{ranges(-1, -1), 9},
		{ranges(3, 2), 9},
		{append(many(30), api.Range{}), 100},
		{many(5), 8},
		{many(65537), api.MaxSize},
		{make([]api.Range, 65537), 9},
	} {
		for _, under := range [][512]byte{full(0), full(0xff)} {
			r, more, why := heldPutOld(t, under, x.l, x.size)
			if r != under || len(more) != 0 || why != api.ErrArg {
				t.Errorf("%.99v of %d: %d %d", x.l, x.size, len(more), why)
			}
		}
	}
}

// P15.5: records that are read, with ranges that are not there and others behind them, and ranges that are no map.
func TestReadOld(t *testing.T) {
	one := twelve(5) + twelve(2)
	two := twelve(9) + twelve(0)
	none := strings.Repeat("\x00", 24)
	blanks := strings.Repeat(" ", 24)
	empty := strings.Repeat("\x00", 12)
	for _, x := range []struct {
		at386  string
		l      []api.Range
		size   int64
		follow bool
	}{
		{"", nil, 0, false},
		{one, ranges(5, 7), 0, false},
		{one + two, ranges(5, 7, 9, 9), 0, false},
		{one + two + one + two, ranges(5, 7, 9, 9, 5, 7, 9, 9), 0, false},
		{two + one + one + one, ranges(9, 9, 5, 7, 5, 7, 5, 7), 0, false}, // it is no map
		{none + one + one + one, nil, 0, false},
		{one + none + one + one, ranges(5, 7), 0, false},
		{one + one + none + one, ranges(5, 7, 5, 7), 0, false},
		{none + blanks + "xxx", nil, 0, false}, // what stands behind it is not looked at
		{one + none + strings.Repeat("x", 48), ranges(5, 7), 0, false},
		{none + none + none + strings.Repeat("\xff", 24) + "\x01" + twelve(3), nil, 3, true},
		{blanks + one, ranges(0, 0, 5, 7), 0, false}, // blanks are no zeros
		{empty + twelve(3), ranges(0, 3), 0, false},
		{twelve(3) + empty, ranges(3, 3), 0, false},
		{twelve(0) + twelve(0), ranges(0, 0), 0, false},
		{empty + "           \x00", ranges(0, 0), 0, false},
		{"\x00           " + empty, ranges(0, 0), 0, false},
		{empty + "\x80" + empty[1:], ranges(0, 0), 0, false},
		{twelve(api.MaxSize) + twelve(0), ranges(api.MaxSize, api.MaxSize), 0, false},
		{twelve(0) + twelve(api.MaxSize), ranges(0, api.MaxSize), 0, false},
		{twelve(1) + twelve(api.MaxSize-1), ranges(1, api.MaxSize), 0, false},
		{none + none + none + none + "\x00" + twelve(api.MaxSize), nil, api.MaxSize, false},
		{one + none + none + none + "\x01" + twelve(1), ranges(5, 7), 1, true}, // it ends beyond the size
		{none + none + none + none + "\x00  12 \x00      ", nil, 10, false},
		{none + none + none + none + "\x001234567 ", nil, 0o1234567, false},
		{none + none + none + none + "\x00", nil, 0, false},
		{none + none + none + none + "\x01", nil, 0, true},
		{none + none + none + none + "1", nil, 0, true},
		{none + none + none + none + "0", nil, 0, true},
		{none + none + none + none + "\x80", nil, 0, true},
		{none + none + none + none + "\xff", nil, 0, true},
		{none + none + none + none + "\x00" + empty + "\x01xyz", nil, 0, false}, // behind the size
	} {
		r := with([512]byte{}, 386, x.at386)
		for _, record := range [][512]byte{r, with(r, 0, strings.Repeat("\xfe", 386)), with(r, 495, strings.Repeat("z", 17))} {
			l, size, follows, why := sparse.ReadOld(record)
			if !slices.Equal(l, x.l) || size != x.size || follows != x.follow || why != api.OK {
				t.Errorf("ReadOld(.. %q ..): %v %d %t %d", x.at386, l, size, follows, why)
			}
			heldReadOld(t, record)
		}
	}
}

// P15.5: further records that are read.
func TestReadMore(t *testing.T) {
	one := twelve(5) + twelve(2)
	none := strings.Repeat("\x00", 24)
	for _, n := range []int{0, 1, 4, 5, 20, 21} {
		for _, byte504 := range []byte{0, 1, 2, '0', '1', 128, 255} {
			r := with([512]byte{}, 0, strings.Repeat(one, n))
			r[504] = byte504
			for _, record := range [][512]byte{r, with(r, 505, "further"), with(r, min(24*n+24, 504), strings.Repeat("x", max(0, 480-24*n)))} {
				l, follows, why := sparse.ReadMore(record)
				if !slices.Equal(l, slices.Repeat(ranges(5, 7), n)) || follows != (byte504 != 0) || why != api.OK {
					t.Errorf("%d ranges, %d: %v %t %d", n, byte504, l, follows, why)
				}
				heldReadMore(t, record)
			}
		}
	}
	for n := range 21 { // one that is none, with others ahead and behind
		r := with([512]byte{}, 0, strings.Repeat(one, n)+none+strings.Repeat(one, 20-n))
		if l, follows, why := sparse.ReadMore(r); len(l) != n || follows || why != api.OK {
			t.Errorf("none at %d: %v %t %d", n, l, follows, why)
		}
	}
	if l, follows, why := sparse.ReadMore(full(0)); len(l) != 0 || follows || why != api.OK {
		t.Errorf("of zeros: %v %t %d", l, follows, why)
	}
}

// fault is a number that is refused, as its twelve bytes, and the error.
type fault struct {
	b   string
	why api.Errno
}

// faults are numbers of each error.
func faults() []fault {
	return []fault{
		{"8           ", api.ErrDigit},
		{"1 2         ", api.ErrDigit},
		{"\x001         ", api.ErrDigit},
		{"xxxxxxxxxxxx", api.ErrDigit},
		{"00000000000x", api.ErrDigit},
		{"-0000000001\x00", api.ErrDigit},
		{"\x80\x00\x00\x00\x80\x00\x00\x00\x00\x00\x00\x00", api.ErrBig}, // 2^63
		{"\xbf" + strings.Repeat("\xff", 11), api.ErrBig},
		{"\xc0" + strings.Repeat("\x00", 11), api.ErrBig},
		{"\xff\xff\xff\xff\x7f" + strings.Repeat("\xff", 7), api.ErrBig}, // -2^63 - 1
		{strings.Repeat("\xff", 12), api.ErrForm},                        // -1
		{"\xff\xff\xff\xff\x80" + strings.Repeat("\x00", 7), api.ErrForm},
	}
}

// P15.5: each error of each number, at each place of both records; nothing else is told with it.
func TestOldRefused(t *testing.T) {
	good := strings.Repeat(twelve(1), 8)
	for _, x := range faults() {
		for i := range 8 {
			r := with(with(full(1), 386, good), 483, twelve(1))
			r = with(r, 386+12*i, x.b)
			if l, size, follows, why := sparse.ReadOld(r); len(l) != 0 || size != 0 || follows || why != x.why {
				t.Errorf("%q at %d: %v %d %t %d", x.b, 386+12*i, l, size, follows, why)
			}
			heldReadOld(t, r)
		}
		for _, at386 := range []string{"", good, good[:24]} {
			r := with(with([512]byte{}, 386, at386), 482, "\x01"+x.b)
			if l, size, follows, why := sparse.ReadOld(r); len(l) != 0 || size != 0 || follows || why != x.why {
				t.Errorf("%q at 483: %v %d %t %d", x.b, l, size, follows, why)
			}
			heldReadOld(t, r)
		}
		for i := range 42 {
			r := with(with(full(1), 0, strings.Repeat(twelve(1), 42)), 12*i, x.b)
			if l, follows, why := sparse.ReadMore(r); len(l) != 0 || follows || why != x.why {
				t.Errorf("%q at %d: %v %t %d", x.b, 12*i, l, follows, why)
			}
			heldReadMore(t, r)
		}
	}
}

// P15.5: a range that ends above MaxSize, at each place.
func TestOldAbove(t *testing.T) {
	for _, x := range [][2]int64{{api.MaxSize, 1}, {1, api.MaxSize}, {api.MaxSize, api.MaxSize}, {1 << 62, 1 << 62}, {1<<62 + 1, 1<<62 - 1}} {
		bad := twelve(x[0]) + twelve(x[1])
		for i := range 4 {
			r := with(with([512]byte{}, 386, strings.Repeat(twelve(1), 8)), 386+24*i, bad)
			r[482] = 1
			if l, size, follows, why := heldReadOld(t, r); len(l) != 0 || size != 0 || follows || why != api.ErrForm {
				t.Errorf("%v at %d: %d", x, i, why)
			}
		}
		for i := range 21 {
			r := with(with(full(1), 0, strings.Repeat(twelve(1), 42)), 24*i, bad)
			if l, follows, why := heldReadMore(t, r); len(l) != 0 || follows || why != api.ErrForm {
				t.Errorf("%v at %d: %d", x, i, why)
			}
		}
	}
}

// P15.5: two faults at once, each in each place: the one that stands ahead is told.
func TestOldOrder(t *testing.T) {
	t.Parallel()
	for _, x := range faults() {
		for _, y := range faults() {
			for i := range 9 {
				for j := i + 1; j < 9; j++ {
					places := []int{386, 398, 410, 422, 434, 446, 458, 470, 483}
					r := with(with([512]byte{}, 386, strings.Repeat(twelve(1), 8)+"\x01"+twelve(1)), places[i], x.b)
					if _, _, _, why := heldReadOld(t, with(r, places[j], y.b)); why != x.why {
						t.Fatalf("%q at %d, %q at %d: %d", x.b, places[i], y.b, places[j], why)
					}
				}
			}
			for i := range 41 {
				r := with(with([512]byte{}, 0, strings.Repeat(twelve(1), 42)), 12*i, x.b)
				for _, j := range []int{i + 1, 41} {
					if _, _, why := heldReadMore(t, with(r, 12*j, y.b)); why != x.why {
						t.Fatalf("%q at %d, %q at %d: %d", x.b, i, y.b, j, why)
					}
				}
			}
		}
		above := twelve(api.MaxSize) + twelve(1)
		if _, _, _, why := heldReadOld(t, with([512]byte{}, 386, above+x.b)); why != api.ErrForm {
			t.Errorf("above MaxSize, and then %q: %d", x.b, why)
		}
		if _, _, _, why := heldReadOld(t, with([512]byte{}, 386, twelve(1)+x.b+above)); why != x.why {
			t.Errorf("%q, and then above MaxSize: %d", x.b, why)
		}
		if _, _, _, why := heldReadOld(t, with(with([512]byte{}, 386, above), 483, x.b)); why != api.ErrForm {
			t.Errorf("above MaxSize, and %q as the size: %d", x.b, why)
		}
	}
}

// P15.4, P15.5, P15.7: maps by chance, there and back, over records by chance; then with bytes turned.
func TestOldChance(t *testing.T) {
	t.Parallel()
	r := rand.New(rand.NewSource(15))
	seen := make(map[api.Errno]int)
	for range 3000 {
		var under [512]byte
		r.Read(under[:])
		l, size := chanceMap(r, 1+r.Intn(80))
		first, more, why := heldPutOld(t, under, l, size)
		if why != api.OK {
			t.Fatalf("PutOld(.., %v, %d): %d", l, size, why)
		}
		heldReadOld(t, under)
		heldReadMore(t, under)
		for range 9 {
			_, _, _, why := heldReadOld(t, turned(r, first, 386, 495))
			seen[why]++
			if len(more) > 0 {
				_, _, why = heldReadMore(t, turned(r, more[r.Intn(len(more))], 0, 505))
				seen[why]++
			}
		}
	}
	for _, why := range []api.Errno{api.OK, api.ErrForm, api.ErrDigit, api.ErrBig} {
		if seen[why] < 100 {
			t.Errorf("%d: %d times", why, seen[why])
		}
	}
}

// turned is a record with some of its bytes from one place up to another turned, or a range's taken away.
func turned(r *rand.Rand, record [512]byte, from, to int) [512]byte {
	switch r.Intn(3) {
	case 0:
		at := from + 24*r.Intn((to-from)/24)
		clear(record[at : at+24])
	case 1:
		at := from + 12*r.Intn((to-from)/12-1)
		r.Read(record[at : at+12])
		record[at] |= 0x80
		if r.Intn(2) == 0 { // a number that is not too great
			copy(record[at:], [][]byte{{0x80, 0, 0, 0}, {0xff, 0xff, 0xff, 0xff}}[r.Intn(2)])
		}
	}
	for range r.Intn(3) {
		record[from+r.Intn(to-from)] = byte(r.Intn(256))
	}
	return record
}
