package reader_test

import (
	"math"
	"slices"
	"strings"
	"testing"

	"satchel/api"
	"satchel/reader"
)

// P16.3: each of Content's errors in turn, and what it answers else.
func TestContent(t *testing.T) {
	b := "0123456789"
	plain := api.Item{Entry: api.Entry{Kind: api.File, Size: 4}, Data: 2, Held: 4}
	holed := api.Item{Entry: api.Entry{Kind: api.File, Size: 6}, Data: 2, Held: 5, Sparse: true, Map: ranges(1, 2, 4, 6)}
	change := func(x api.Item, how func(x *api.Item)) api.Item {
		how(&x)
		return x
	}
	for i, c := range []struct {
		x    api.Item
		want string
		why  api.Errno
	}{
		{plain, "2345", api.OK},
		{holed, "\x004\x00\x0056", api.OK}, // the last three of the five
		{api.Item{}, "", api.ErrArg},
		{api.Item{Entry: api.Entry{Kind: api.File}}, "", api.OK},
		{api.Item{Entry: api.Entry{Kind: api.File}, Sparse: true}, "", api.OK},
		{api.Item{Entry: api.Entry{Kind: api.File}, Data: 10}, "", api.OK},
		{api.Item{Entry: api.Entry{Kind: api.File, Size: 3}, Sparse: true, Data: 10}, "\x00\x00\x00", api.OK},
		{api.Item{Entry: api.Entry{Kind: api.File, Size: 10}, Held: 10}, b, api.OK},

		{change(plain, func(x *api.Item) { x.Entry.Kind = api.Dir }), "", api.ErrArg},
		{change(plain, func(x *api.Item) { x.Entry.Kind = api.Symlink }), "", api.ErrArg},
		{change(plain, func(x *api.Item) { x.Entry.Kind = api.HardLink }), "", api.ErrArg},
		{change(plain, func(x *api.Item) { x.Entry.Kind = api.Device }), "", api.ErrArg},
		{change(plain, func(x *api.Item) { x.Entry.Kind = -2 }), "", api.ErrArg},
		{change(plain, func(x *api.Item) { x.Entry.Size = -1 }), "", api.ErrArg},
		{change(plain, func(x *api.Item) { x.Held = -1 }), "", api.ErrArg},
		{change(plain, func(x *api.Item) { x.Entry.Size, x.Held = -1, -1 }), "", api.ErrArg},
		{change(plain, func(x *api.Item) { x.Entry.Size, x.Held = 1<<22+1, -1 }), "", api.ErrArg},
		{change(plain, func(x *api.Item) { x.Entry.Size = 1<<22 + 1 }), "", api.ErrLong},
		{change(plain, func(x *api.Item) { x.Entry.Size, x.Data = 1<<22+1, -1 }), "", api.ErrLong},
		{change(plain, func(x *api.Item) { x.Entry.Size = math.MaxInt64 }), "", api.ErrLong},
		{change(plain, func(x *api.Item) { x.Data = -1 }), "", api.ErrShort},
		{change(plain, func(x *api.Item) { x.Data = math.MinInt }), "", api.ErrShort},
		{change(plain, func(x *api.Item) { x.Data = 11 }), "", api.ErrShort},
		{change(plain, func(x *api.Item) { x.Data = math.MaxInt }), "", api.ErrShort},
		{change(plain, func(x *api.Item) { x.Data, x.Held, x.Entry.Size = 11, 0, 0 }), "", api.ErrShort},
		{change(plain, func(x *api.Item) { x.Data = 6 }), "6789", api.OK},
		{change(plain, func(x *api.Item) { x.Data = 7 }), "", api.ErrShort},
		{change(plain, func(x *api.Item) { x.Held = 9 }), "", api.ErrShort},
		{change(plain, func(x *api.Item) { x.Held = math.MaxInt64 }), "", api.ErrShort},
		{change(plain, func(x *api.Item) { x.Entry.Size = 3 }), "", api.ErrArg},
		{change(plain, func(x *api.Item) { x.Entry.Size = 5 }), "", api.ErrArg},
		{change(plain, func(x *api.Item) { x.Held = 3 }), "", api.ErrArg},
		{change(plain, func(x *api.Item) { x.Map = ranges(-5, 99) }), "2345", api.OK}, // it is not Sparse

		{change(holed, func(x *api.Item) { x.Held = 3 }), "\x002\x00\x0034", api.OK},
		{change(holed, func(x *api.Item) { x.Held = 2 }), "", api.ErrArg},
		{change(holed, func(x *api.Item) { x.Held = 8 }), "\x007\x00\x0089", api.OK},
		{change(holed, func(x *api.Item) { x.Held = 9 }), "", api.ErrShort},
		{change(holed, func(x *api.Item) { x.Entry.Size = 5 }), "", api.ErrArg},
		{change(holed, func(x *api.Item) { x.Entry.Size = 7 }), "\x004\x00\x0056\x00", api.OK},
		{change(holed, func(x *api.Item) { x.Entry.Size = 1<<22 + 1 }), "", api.ErrLong},
		{change(holed, func(x *api.Item) { x.Map = nil }), zeros(6), api.OK},
		{change(holed, func(x *api.Item) { x.Map = ranges(4, 6, 1, 2) }), "", api.ErrArg},
		{change(holed, func(x *api.Item) { x.Map = ranges(1, 2, 1, 3) }), "", api.ErrArg},
		{change(holed, func(x *api.Item) { x.Map = ranges(2, 1) }), "", api.ErrArg},
		{change(holed, func(x *api.Item) { x.Map = ranges(0, 3, 5, 4) }), "", api.ErrArg},
		{change(holed, func(x *api.Item) { x.Map = ranges(-1, 1) }), "", api.ErrArg},
		{change(holed, func(x *api.Item) { x.Map = ranges(math.MinInt64, math.MaxInt64) }), "", api.ErrArg},
		{change(holed, func(x *api.Item) { x.Map = ranges(math.MinInt64, math.MinInt64+3) }), "", api.ErrArg},
		{change(holed, func(x *api.Item) { x.Map = ranges(0, math.MaxInt64) }), "", api.ErrArg},
		{change(holed, func(x *api.Item) { x.Map = ranges(0, math.MaxInt64, 0, math.MaxInt64, 0, 4) }), "", api.ErrArg},
		{change(holed, func(x *api.Item) { x.Map = make([]api.Range, 65536) }), zeros(6), api.OK},
		{change(holed, func(x *api.Item) { x.Map = make([]api.Range, 65537) }), "", api.ErrArg},
	} {
		if got, why := reader.Content([]byte(b), c.x); string(got) != c.want || why != c.why {
			t.Errorf("%d: %q %d, not %q %d", i, got, why, c.want, c.why)
		}
		heldContent(t, b, c.x)
	}
	if out, why := reader.Content(nil, api.Item{Entry: api.Entry{Kind: api.File, Size: 2}, Sparse: true}); string(out) != "\x00\x00" || why != api.OK {
		t.Errorf("of nil: %q %d", out, why)
	}
}

// P16.3: all items of a few values of each field, over a few bytes.
func TestContentOfAll(t *testing.T) {
	t.Parallel()
	const b = "0123456789"
	maps := [][]api.Range{
		nil, ranges(0, 0), ranges(0, 3), ranges(1, 2, 2, 4), ranges(2, 1), ranges(-1, 2), ranges(0, 2, 1, 2), ranges(9, 10, 0, 1),
		ranges(0, math.MaxInt64, 0, math.MaxInt64, 0, 3), ranges(math.MinInt64, math.MaxInt64), ranges(0, 11),
	}
	for _, kind := range []int{-1, 0, api.Dir, api.File, api.Symlink, api.HardLink, api.Device, 6} {
		for _, size := range []int64{math.MinInt64, -1, 0, 1, 3, 4, 10, 11, 1<<22 + 1, math.MaxInt64} {
			for _, n := range []int64{math.MinInt64, -1, 0, 1, 3, 4, 10, 11, 1 << 40, math.MaxInt64} {
				for _, data := range []int{math.MinInt, -1, 0, 1, 7, 9, 10, 11, math.MaxInt} {
					x := api.Item{Entry: api.Entry{Kind: kind, Size: size}, Held: n, Data: data}
					heldContent(t, b, x)
					x.Sparse = true
					for _, l := range maps {
						x.Map = l
						heldContent(t, b, x)
					}
				}
			}
		}
	}
}

// P16.3, P16.4: Content of files at MaxBlock and one more, without holes and with holes of both sorts.
func TestContentMaxBlock(t *testing.T) {
	const most = 1 << 22
	for _, n := range []int64{most - 1, most, most + 1} {
		data := strings.Repeat("d", int(n))
		l := ranges(0, 3, n-2, n)
		for i, b := range []string{
			file(t, "n", data),
			oldWay(t, "n", l, n, "abcde"),
			newWay(t, api.Header{Name: "n"}, l, n, "abcde"),
		} {
			got, at, why := reader.Read([]byte(b))
			if why != api.OK || at != len(b) || len(got) != 1 || got[0].Entry.Size != n {
				t.Fatalf("%d of %d: %d %d", i, n, at, why)
			}
			want, refused := "abc"+zeros(int(n)-5)+"de", api.OK
			if i == 0 {
				want = data
			}
			if n > most {
				want, refused = "", api.ErrLong
			}
			if out, why := reader.Content([]byte(b), got[0]); string(out) != want || why != refused {
				t.Errorf("%d of %d: %d bytes, %d", i, n, len(out), why)
			}
		}
	}
	// All of it held, and not: the last bytes count.
	b := strings.Repeat("x", most) + strings.Repeat("y", most)
	x := api.Item{Entry: api.Entry{Kind: api.File, Size: most}, Held: 2 * most, Sparse: true, Map: ranges(0, most)}
	if out, why := reader.Content([]byte(b), x); string(out) != b[most:] || why != api.OK {
		t.Errorf("%d bytes, %d", len(out), why)
	}
	x.Map = ranges(0, most, most, most+1)
	if out, why := reader.Content([]byte(b), x); len(out) != 0 || why != api.ErrArg {
		t.Errorf("%d bytes, %d", len(out), why)
	}
}

// The rule of memory: what Content answers is not the archive's.
func TestContentIsNew(t *testing.T) {
	b := []byte(file(t, "n", "some bytes") + oldWay(t, "o", ranges(0, 3), 3, "abc"))
	was := slices.Clone(b)
	l, _, _ := reader.Read(b)
	for _, x := range l {
		out, _ := reader.Content(b, x)
		again := slices.Clone(out)
		spoil(out, mark)
		if !slices.Equal(b, was) {
			t.Fatal("it is shared")
		}
		out, _ = reader.Content(b, x)
		spoil(b[x.Data:x.Next], mark)
		if !slices.Equal(out, again) {
			t.Error("it is shared")
		}
		copy(b, was)
	}
}
