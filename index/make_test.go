package index_test

import (
	"strings"
	"testing"

	"satchel/api"
	"satchel/field"
	"satchel/index"
)

// The chapter's first example.
func TestExample(t *testing.T) {
	h := opened(t, []byte(example()))
	for _, name := range []string{"a/f", "./a//f"} {
		if i, there := h.find(name); i != 3 || !there {
			t.Error(name, i, there)
		}
	}
	if i, why := h.follow(2); i != 1 || why != api.OK {
		t.Error(i, why)
	}
	if data, why := h.data([]byte(example()), 2); data != "x" || why != api.OK {
		t.Error(data, why)
	}
	if l := h.under("a"); len(l) != 2 || l[0] != 1 || l[1] != 3 {
		t.Error(l)
	}
	if l := h.under(""); len(l) != 4 || l[0] != 0 || l[3] != 3 {
		t.Error(l)
	}
}

// P23.1: archives that end well, with the place of their end; each entry is just what Read tells.
func TestMake(t *testing.T) {
	for _, b := range cases() {
		opened(t, []byte(b))
	}
	for _, x := range []struct {
		b       string
		at, len int
	}{
		{"", 0, 0}, {end, 0, 0}, {file("a", "data"), 1024, 1}, {file("a", "data") + end, 1024, 1},
		{file("a", "data") + zeroRecord + file("b", "data"), 1024, 1}, {dir("a") + dir("b"), 1024, 2},
		{pairs('g', "uname", "x") + end, 1024, 0}, {example(), 3072, 4},
	} {
		if y, at, why := index.Make([]byte(x.b)); y == nil || at != x.at || why != api.OK || y.Len() != x.len {
			t.Errorf("%s: %d %d", sketch([]byte(x.b)), at, why)
		}
	}
}

// P23.1: archives that are cut, anywhere: nothing, Read's place and its error, or an index of what is whole.
func TestMakeCut(t *testing.T) {
	t.Parallel()
	b := []byte(motley())
	well := 0
	for n := range b {
		items := 0
		if _, at, why := index.Make(b[:n]); why == api.OK {
			x, _, _ := index.Make(b[:n])
			items = x.Len()
			well++
			if at > n || at%512 > 0 {
				t.Fatal(n, at)
			}
		} else if place, _ := refused(t, b[:n]); place > n {
			t.Fatal(n, place)
		}
		if n%512 == 0 && items > 0 {
			opened(t, b[:n])
		}
	}
	if well < 20 {
		t.Error(well)
	}
}

// P23.1: archives of which one byte is another one, anywhere.
func TestMakeSpoilt(t *testing.T) {
	t.Parallel()
	b := []byte(dir("a") + pairs('x', "path", "a/f") + file("x", "data") + long('L', "a/g") + oldHoles("holes", 20, []api.Range{{From: 5, To: 7}}, "ab") + hard("h", "a/f") + end)
	count := make(map[api.Errno]int)
	for at := range b {
		for _, by := range []byte{1, 128} {
			spoilt := turned(b, at, by)
			_, _, why := index.Make(spoilt)
			count[why]++
			if why != api.OK {
				refused(t, spoilt)
			} else if at%16 == 0 {
				opened(t, spoilt)
			}
		}
	}
	if count[api.OK] < 1000 || count[api.ErrSum] < 1000 || count[api.ErrLength] == 0 || count[api.ErrRecord] == 0 {
		t.Error(count)
	}
}

// P23.1: each of reading's errors, at its place, behind entries that are whole.
func TestMakeErrors(t *testing.T) {
	record := made(api.Header{Name: "a", Type: '0'}, "")
	summed := func(b string, at int, text string) string {
		r := [512]byte([]byte(b[:512]))
		copy(r[at:], text)
		r = field.PutSum(r)
		return string(r[:]) + b[512:]
	}
	for _, x := range []struct {
		b   string
		at  int
		why api.Errno
	}{
		{strings.Repeat("x", 100), 100, api.ErrShort},
		{strings.Repeat("x", 512), 148, api.ErrSum},
		{record[:9] + "x" + record[10:], 148, api.ErrSum},
		{summed(record, 257, "other"), 257, api.ErrMagic},
		{summed(record, 124, "00000000009"), 124, api.ErrDigit},
		{pairs('x', "path", "b"), 0, api.ErrAlone},
		{made(api.Header{Type: 'x'}, "9 path=b"), 520, api.ErrShort},
		{made(api.Header{Type: 'g'}, "x path=b\n"), 512, api.ErrLength},
		{pairs('x', "uid", "4294967296") + record, 1024, api.ErrBig},
		{pairs('x', "mtime", "soon") + record, 1024, api.ErrDigit},
		{paxHoles("a", 3, []api.Range{{From: 0, To: 2}}, "abc"), 1024, api.ErrSparse},
		{summed(made(api.Header{Form: api.GNU, Type: 'L'}, ""), 124, "00004000001"), 0, api.ErrLong},
	} {
		ahead := file("ahead", "data") + dir("d")
		if at, why := refused(t, []byte(x.b)); at != x.at || why != x.why {
			t.Errorf("%s: %d %d, not %d %d", sketch([]byte(x.b)), at, why, x.at, x.why)
		}
		if at, why := refused(t, []byte(ahead+x.b)); at != x.at+len(ahead) || why != x.why {
			t.Errorf("behind two: %s: %d %d, not %d %d", sketch([]byte(x.b)), at, why, x.at, x.why)
		}
		opened(t, []byte(ahead+end+x.b))
	}
}

// P23.1: Item at the last entry, behind it, and below 0; with all that an entry has.
func TestItem(t *testing.T) {
	h := opened(t, []byte(motley()))
	last := len(h.items) - 1
	for i, want := range map[int]api.Errno{-1: api.ErrItem, 0: api.OK, last: api.OK, last + 1: api.ErrItem} {
		if _, why := h.item(i); why != want {
			t.Error(i, why)
		}
	}
	for i, x := range h.items {
		if got, _ := h.item(i); x.Sparse != (len(got.Map) > 0) || len(got.Pairs) == 0 {
			t.Errorf("%d: %+v", i, got)
		}
	}
	none := opened(t, nil)
	if _, why := none.item(0); why != api.ErrItem || none.x.Len() != 0 {
		t.Error(why)
	}
}
