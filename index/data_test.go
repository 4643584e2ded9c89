package index_test

import (
	"bytes"
	"slices"
	"strings"
	"testing"

	"satchel/api"
	"satchel/index"
	"satchel/reader"
)

func makeOf(b string) (*index.Index, int, api.Errno) {
	return index.Make([]byte(b))
}

// P23.4: the same bytes, too few by one, longer ones, other ones behind.
func TestSame(t *testing.T) {
	b := []byte(motley())
	h := opened(t, b)
	for i, x := range h.items {
		for _, same := range [][]byte{b, b[:x.Next], slices.Concat(b, []byte("more")), slices.Concat(b[:x.Next], bytes.Repeat([]byte{'#'}, 9999))} {
			if !h.same(same, i) {
				t.Errorf("%d: another one of %d bytes", i, len(same))
			}
		}
		for _, other := range [][]byte{nil, {}, b[:x.From], b[:x.Next-1], b[1:], slices.Concat([]byte("x"), b), make([]byte, len(b))} {
			if h.same(other, i) {
				t.Errorf("%d: the same of %d bytes", i, len(other))
			}
		}
	}
	for _, i := range []int{-1, len(h.items)} {
		if h.same(b, i) {
			t.Error(i)
		}
	}
}

// P23.4, P23.7: each byte turned, one at a time: the entry in whose bytes it stands is another one, all others are the same.
func TestSameTurned(t *testing.T) {
	t.Parallel()
	b := []byte(pairs('g', "uname", "x") + file("a", "data") + long('L', "name") + pairs('g', "gname", "y") + file("x", strings.Repeat("d", 600)) + hard("h", "a") + dir("d") + oldHoles("holes", 9, []api.Range{{From: 1, To: 3}}, "ab") + end)
	h := opened(t, b)
	for at := range b {
		spoilt := turned(b, at, 1<<(at%8))
		for i, x := range h.items {
			within := at >= x.From && at < x.Next
			if h.x.Same(spoilt, i) == within {
				t.Fatalf("%d, turned at %d: %t", i, at, !within)
			}
			data, why := h.x.Data(spoilt, i)
			if want, e := modelData(b, spoilt, h.items, i); !bytes.Equal(data, want) || why != e || within && why != api.ErrStale && why != api.ErrLink {
				t.Fatalf("%d, turned at %d: %q %d", i, at, data, why)
			}
		}
	}
}

// P23.4: Data of each kind.
func TestData(t *testing.T) {
	b := []byte(motley())
	h := opened(t, b)
	holes := strings.Repeat("\x00", 5) + "12345" + strings.Repeat("\x00", 1990) + "678" + strings.Repeat("\x00", 997)
	for i, want := range []struct {
		data string
		why  api.Errno
	}{
		{"", api.ErrLink}, {"first", api.OK}, {strings.Repeat("text ", 300), api.OK}, {"old", api.OK}, {"", api.ErrLink},
		{"", api.ErrLink}, {"first", api.OK}, {"", api.ErrLink}, {"first", api.OK},
		{holes, api.OK}, {strings.Repeat("\x00", 600) + strings.Repeat("d", 100), api.OK},
		{"second", api.OK}, {"out", api.OK}, {strings.Repeat("\x00", 600) + strings.Repeat("d", 100), api.OK}, {"", api.OK}, {"second", api.OK},
		{"", api.ErrLink}, {"", api.ErrLink}, {"", api.ErrItem}, {"", api.ErrLink}, {"third", api.OK}, {"third", api.OK},
	} {
		if data, why := h.data(b, i); data != want.data || why != want.why {
			t.Errorf("%s: %s %d, not %s %d", h.line(i), brief([]byte(data)), why, brief([]byte(want.data)), want.why)
		}
	}
	for _, i := range []int{-1, len(h.items), 1 << 62} {
		if _, why := h.data(b, i); why != api.ErrItem {
			t.Error(i, why)
		}
	}
}

// P23.4: a hard link's bytes need both entries to be the same: neither of them may be another one. What stands between plays no part.
func TestDataOfLinks(t *testing.T) {
	first, between, last := file("f", "data"), hard("g", "f"), hard("h", "g")
	b := []byte(first + between + last + end)
	h := opened(t, b)
	if data, why := h.data(b, 2); data != "data" || why != api.OK {
		t.Error(data, why)
	}
	for at := range b {
		_, why := h.x.Data(turned(b, at, 4), 2)
		isBetween := at >= len(first) && at < len(first+between)
		isEnd := at >= len(first+between+last)
		if want := (isBetween || isEnd); want != (why == api.OK) || !want && why != api.ErrStale {
			t.Fatal(at, why)
		}
	}
	for n := range b {
		want := api.ErrStale
		if n >= len(first+between+last) {
			want = api.OK
		}
		if _, why := h.data(b[:n], 2); why != want {
			t.Fatal(n, why)
		}
	}
	// Another archive in which the numbers would mean something else.
	other := []byte(first + between + hard("h", "f") + end)
	if _, why := h.data(other, 2); why != api.ErrStale {
		t.Error(why)
	}
	if data, why := h.data(other, 1); data != "data" || why != api.OK {
		t.Error(data, why)
	}
}

// P23.4: of several errors Follow's is told first, and then that the archive is another one.
func TestDataOrder(t *testing.T) {
	big := paxHoles("big", api.MaxBlock+1, []api.Range{{From: 0, To: 1}}, "x")
	h := opened(t, []byte(dir("d")+hard("n", "none")+big+hard("h", "big")+hard("l", "d")+end))
	for i, want := range []api.Errno{api.ErrLink, api.ErrItem, api.ErrStale, api.ErrStale, api.ErrLink, api.ErrItem} {
		for _, b := range [][]byte{nil, make([]byte, len(h.was)), h.was[512:]} {
			if _, why := h.data(b, i); why != want {
				t.Error(i, why)
			}
		}
	}
	for i, want := range []api.Errno{api.ErrLink, api.ErrItem, api.ErrLong, api.ErrLong, api.ErrLink} {
		if _, why := h.data(h.was, i); why != want {
			t.Error(i, why)
		}
	}
}

// P23.4: files of just MaxBlock bytes, and of one more, with holes and without.
func TestDataGreatest(t *testing.T) {
	t.Parallel()
	const most = api.MaxBlock
	for _, x := range []struct {
		b    string
		size int
	}{
		{file("f", strings.Repeat("x", most)), most}, {file("f", strings.Repeat("x", most+1)), most + 1},
		{oldHoles("f", most, []api.Range{{From: 9, To: 10}}, "x"), most}, {oldHoles("f", most+1, []api.Range{{From: 9, To: 10}}, "x"), most + 1},
		{paxHoles("f", most, nil, ""), most}, {paxHoles("f", most+1, nil, ""), most + 1}, {paxHoles("f", 1<<63-1, nil, ""), most + 1},
	} {
		y, _, why := makeOf(x.b + hard("h", "f"))
		if why != api.OK {
			t.Fatal(why)
		}
		for i := range 2 {
			data, why := y.Data([]byte(x.b+hard("h", "f")), i)
			if (why == api.OK) != (x.size <= most) || why == api.OK && len(data) != x.size || why != api.OK && (why != api.ErrLong || data != nil) {
				t.Errorf("%d of %d: %d %d", i, x.size, len(data), why)
			}
		}
	}
}

// alone is P23.6: each file's bytes, where all behind it is left out, or is spoilt, and all ahead of it, too.
func (h held) alone() {
	h.t.Helper()
	for i, x := range h.items {
		if x.Entry.Kind != api.File {
			continue
		}
		want, e := reader.Content(h.was, x)
		spoilt := slices.Clone(h.was)
		for at := range spoilt {
			if at < x.From || at >= x.Next {
				spoilt[at] ^= byte(at) | 1
			}
		}
		for _, b := range [][]byte{h.was, h.was[:x.Next], spoilt, spoilt[:x.Next], slices.Concat(h.was[:x.Next], spoilt[x.Next:])} {
			data, why := h.x.Data(b, i)
			if !bytes.Equal(data, want) || why != e {
				h.t.Fatalf("%d of %s: %s %d", i, sketch(h.was), brief(data), why)
			}
		}
		for _, at := range []int{x.From, x.Head, x.Data - 1, x.Next - 1, (x.From + x.Next) / 2} {
			if _, why := h.x.Data(turned(h.was, at, 16), i); why != api.ErrStale {
				h.t.Fatalf("%d of %s, turned at %d: %d", i, sketch(h.was), at, why)
			}
		}
	}
}

// P23.6, P23.7: one without the others.
func TestAlone(t *testing.T) {
	for _, b := range cases() {
		opened(t, []byte(b)).alone()
	}
}
