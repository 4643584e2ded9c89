package reader_test

import (
	"bytes"
	"fmt"
	"math/rand"
	"slices"
	"strings"
	"testing"

	"satchel/api"
	"satchel/field"
	"satchel/reader"
)

// mixed is an archive with something of every sort, that ends without zeros.
func mixed(t *testing.T) string {
	t.Helper()
	return global(t, "uname", "g", "comment", "all") +
		file(t, "a", "some data") +
		put(t, api.Header{Form: api.V7, Name: "d", Type: '5'}, "") +
		longName(t, "long/name") + longLink(t, "link") + put(t, api.Header{Form: api.GNU, Name: "s", Type: '2'}, "") +
		local(t, "path", "p", "mtime", "1.5") + file(t, "b", strings.Repeat("b", 1030)) +
		oldWay(t, "old", apart(30), 100, strings.Repeat("o", 30)) +
		global(t, "uname", "") +
		newWay(t, api.Header{Name: "n"}, ranges(3, 6, 9, 10), 20, "data") +
		put(t, api.Header{Name: "h", Type: '1', Link: "a", Size: 7}, "") +
		put(t, api.Header{Name: "v", Type: 'V'}, "volume") +
		global(t, "comment", "")
}

// P16.5, P8: an archive cut at each of its bytes tells the entries that are whole, and each cut is held to the model.
func TestCuts(t *testing.T) {
	t.Parallel()
	for _, b := range []string{mixed(t), mixed(t) + zeros(1024) + "behind"} {
		all, _, why := held(t, b)
		if why != api.OK || len(all) != 8 {
			t.Fatal(len(all), why)
		}
		for n := range len(b) {
			var want []api.Item
			for _, x := range all {
				if x.Next <= n {
					want = append(want, x)
				}
			}
			l, at, why := reader.Read([]byte(b[:n]))
			if !sameItems(l, want) {
				t.Fatalf("cut at %d: %+v", n, l)
			}
			steps := modelSteps(b[:n])
			if end := steps[len(steps)-1]; at != end.at || why != end.why {
				t.Fatalf("cut at %d: %d %d, not %d %d", n, at, why, end.at, end.why)
			}
			if n%512 == 0 || n%512 == 511 {
				held(t, b[:n])
			}
		}
	}
}

// P16.6: archives one behind the other: of entries of every sort, of what can't be read, and of none.
func TestOneBehindTheOther(t *testing.T) {
	t.Parallel()
	sound := []string{
		"",
		file(t, "a", "data"),
		put(t, api.Header{Name: "d", Type: '5'}, ""),
		longName(t, "l") + file(t, "a", ""),
		global(t, "k", "v") + local(t, "path", "p") + file(t, "b", "b") + global(t, "k", ""),
		oldWay(t, "old", apart(9), 30, "ninebytes"),
		newWay(t, api.Header{Name: "n"}, ranges(0, 2), 9, "xy"),
		mixed(t),
	}
	others := append(slices.Clone(sound),
		zeros(1024),
		file(t, "a", "data")+zeros(512)+"x",
		global(t, "path", "g")+file(t, "a", ""),
		longName(t, "alone"),
		file(t, "a", "")+local(t, "path", "alone"),
		strings.Repeat("x", 512),
		file(t, "a", "data")[:600],
		"x",
		mixed(t)[:9000],
	)
	for _, a := range sound {
		first, end, why := held(t, a)
		if why != api.OK || end != len(a) {
			t.Fatal(end, why)
		}
		for _, b := range others {
			second, at, why := held(t, b)
			want := slices.Clone(first)
			for _, x := range second {
				x.From, x.Head, x.Data, x.Next = x.From+len(a), x.Head+len(a), x.Data+len(a), x.Next+len(a)
				want = append(want, x)
			}
			l, place, refused := held(t, a+b)
			if !sameItems(l, want) || place != at+len(a) || refused != why {
				t.Fatalf("%d entries, %d %d, not %d entries, %d %d", len(l), place, refused, len(want), at+len(a), why)
			}
		}
	}
}

// P16.1: Next behind the end and behind an error, again and again, though there would be more.
func TestForEver(t *testing.T) {
	for _, x := range []struct {
		b   string
		at  int
		why api.Errno
	}{
		{"", 0, api.OK},
		{zeros(512) + file(t, "a", ""), 0, api.OK},
		{strings.Repeat("x", 512) + file(t, "a", ""), 148, api.ErrSum},
		{local(t, "uid", "x") + file(t, "a", "") + file(t, "b", ""), 1024, api.ErrDigit},
		{local(t, "path", "p") + zeros(512) + file(t, "a", ""), 0, api.ErrAlone},
		{oldWay(t, "o", ranges(0, 9), 9, "few") + file(t, "a", ""), 0, api.ErrSparse},
	} {
		r := reader.New([]byte(x.b))
		for range 9 {
			got, there, why := r.Next()
			if !sameItem(got, api.Item{}) || got.Map != nil || got.Pairs != nil || there || why != x.why || r.At() != x.at {
				t.Errorf("%+v %t %d %d, not %d %d", got, there, why, r.At(), x.why, x.at)
			}
		}
	}
}

// The rule that two objects know nothing of one another, and that nothing handed in is kept: two readers of one list of bytes, which is written over in between.
func TestApart(t *testing.T) {
	b := mixed(t)
	steps := modelSteps(b)
	handed := []byte(b)
	r, s := reader.New(handed), reader.New(handed)
	clear(handed)
	for i, want := range steps {
		x, there, why := r.Next()
		if !sameItem(x, want.item) || there != want.there || why != want.why {
			t.Fatalf("step %d: %+v", i, x)
		}
		if i%2 == 0 {
			continue
		}
		for _, want := range steps[i-1 : i+1] {
			if x, _, _ := s.Next(); !sameItem(x, want.item) || s.At() != want.at || !slices.Equal(s.Globals(), want.globals) {
				t.Fatalf("step %d: %+v", i, x)
			}
		}
	}
}

// The rule of memory: no two lists of an answer share room: what is put behind one is not to be seen in another.
func TestRoom(t *testing.T) {
	b := []byte(strings.Repeat(global(t, many(20)...)+file(t, "a", "")+oldWay(t, "o", apart(6), 12, "sixsix"), 3))
	l, _, why := reader.Read(b)
	if why != api.OK || len(l) != 6 {
		t.Fatal(len(l), why)
	}
	again, _, _ := reader.Read(b)
	for i, x := range l {
		spoil(x.Map, spoiledRange)
		spoil(x.Pairs, spoiledPair)
		if !sameItems(l[i+1:], again[i+1:]) {
			t.Fatalf("the entry %d shares with a later one", i)
		}
	}
}

// piece is part of an archive by chance: often sound, sometimes not.
func piece(t *testing.T, r *rand.Rand) string {
	t.Helper()
	form := forms[r.Intn(3)]
	data := strings.Repeat("data", r.Intn(300))
	value := func() string {
		return []string{"", "0", "1", "7", "x", "dir/", "4294967295", "4294967296", "-1.5", "600", "99999999999999999999"}[r.Intn(11)]
	}
	said := func() string {
		var l []string
		for range r.Intn(4) {
			key := []string{"path", "linkpath", "size", "uid", "gid", "mtime", "uname", "gname", "GNU.sparse.major", "GNU.sparse.minor", "GNU.sparse.name", "GNU.sparse.realsize", "other"}[r.Intn(13)]
			text := value()
			if r.Intn(3) > 0 && slices.Contains([]string{"size", "uid", "gid", "mtime"}, key) {
				text = ""
			}
			l = append(l, key, text)
		}
		return lines(t, l...)
	}
	switch r.Intn(14) {
	case 0:
		return tell(t, form, 'g', said())
	case 1, 2:
		return tell(t, form, 'x', said())
	case 3:
		return tell(t, form, 'L', value()+"\x00"+value())
	case 4:
		return tell(t, form, 'K', value())
	case 5:
		n := r.Intn(60)
		return oldWay(t, "old", apart(n), int64(2*n)+int64(r.Intn(20))-3*int64(btoi(r.Intn(4) == 0)), strings.Repeat("o", n+btoi(r.Intn(6) == 0)))
	case 6, 7:
		n := r.Intn(60)
		return newWay(t, api.Header{Form: form, Name: "new", Type: []byte("0007")[r.Intn(4)]}, apart(n), int64(2*n)+int64(r.Intn(20))-3*int64(btoi(r.Intn(4) == 0)), strings.Repeat("n", n+btoi(r.Intn(6) == 0)))
	case 8:
		if r.Intn(4) == 0 {
			return zeros(512)
		}
		return local(t, "path", "p") + file(t, "f", data)
	case 9:
		return put(t, api.Header{Form: form, Name: "n", Link: "l", Type: []byte("123456")[r.Intn(6)], Size: int64(r.Intn(2) * 700)}, "")
	case 10:
		return put(t, api.Header{Form: form, Name: "n", Link: "l", Type: byte(1 + r.Intn(255))}, data)
	}
	return put(t, api.Header{Form: form, Name: []string{"name", "dir/"}[r.Intn(2)], UID: int64(r.Intn(9)), Type: []byte("00007")[r.Intn(5)]}, data)
}

// broken is an archive with some bytes turned, the sums of their records made right or not; or cut off, or with records put in or left out.
func broken(r *rand.Rand, b string) string {
	if len(b) < 512 {
		return b
	}
	at := r.Intn(len(b)/512) * 512
	switch r.Intn(6) {
	case 0:
		return b[:r.Intn(len(b))]
	case 1:
		return b[:at] + b[at+512:]
	case 2:
		return b[:at] + b[at:at+512] + b[at:]
	}
	record := [512]byte([]byte(b[at:]))
	for range 1 + r.Intn(3) {
		place := r.Intn(512)
		if r.Intn(2) == 0 {
			place = []int{100, 108, 116, 124, 136, 156, 257, 262, 263, 386, 398, 482, 483, 504}[r.Intn(14)] + r.Intn(4)
		}
		record[place] = []byte{0, 1, ' ', '0', '1', '7', '9', '\n', 'x', 'g', 'S', 0x80, 0xff, byte(r.Intn(256))}[r.Intn(14)]
	}
	if r.Intn(4) > 0 {
		record = field.PutSum(record)
	}
	return b[:at] + string(record[:]) + b[at+512:]
}

// P16.1 to P16.7: archives by chance, sound and broken.
func TestChance(t *testing.T) {
	t.Parallel()
	seen := map[api.Errno]int{}
	holes := 0
	for seed := range 8 {
		r := rand.New(rand.NewSource(int64(seed)))
		for range 800 {
			b := ""
			for range 1 + r.Intn(8) {
				b += piece(t, r)
			}
			for range r.Intn(3) {
				b = broken(r, b)
			}
			l, _, why := held(t, b)
			seen[why]++
			for _, x := range l {
				holes += btoi(x.Sparse)
			}
			n := r.Intn(len(b) + 1)
			part, _, _ := reader.Read([]byte(b[:n]))
			whole := slices.IndexFunc(l, func(x api.Item) bool { return x.Next > n })
			if whole < 0 {
				whole = len(l)
			}
			if !sameItems(part, l[:whole]) {
				t.Fatalf("of the first %d: %+v, not %+v", n, part, l[:whole])
			}
		}
	}
	for _, why := range []api.Errno{api.OK, api.ErrShort, api.ErrSum, api.ErrMagic, api.ErrDigit, api.ErrBig, api.ErrForm, api.ErrAlone, api.ErrSparse} {
		if seen[why] < 10 {
			t.Errorf("%d times %d", seen[why], why)
		}
	}
	if holes < 500 {
		t.Errorf("%d files with holes", holes)
	}
}

// P16.7: bytes by chance, and bytes that are all alike.
func TestNoise(t *testing.T) {
	r := rand.New(rand.NewSource(16))
	for range 300 {
		b := make([]byte, r.Intn(4000))
		r.Read(b)
		held(t, string(b))
	}
	for x := range 256 {
		for _, n := range []int{1, 511, 512, 513, 1024, 5000} {
			held(t, string(bytes.Repeat([]byte{byte(x)}, n)))
		}
	}
}

// P16.1: what an archive of many entries, with as many pairs as can hold, comes to; each its own.
func TestManyEntries(t *testing.T) {
	b := global(t, many(1024)...)
	var names []string
	for i := range 50 {
		names = append(names, fmt.Sprint("n", i))
		b += local(t, append([]string{"path", names[i]}, many(1023)...)...) + file(t, "f", names[i])
	}
	for _, x := range holding(t, b, names, len(b), api.OK) {
		if len(x.Pairs) != 1025 {
			t.Fatalf("%d pairs", len(x.Pairs))
		}
		if out, why := reader.Content([]byte(b), x); string(out) != x.Entry.Name || why != api.OK {
			t.Fatalf("%q %d", out, why)
		}
	}
}
