package index_test

import (
	"math/rand"
	"slices"
	"strings"
	"testing"

	"satchel/api"
	"satchel/index"
	"satchel/reader"
	"satchel/writer"
)

func one[T any](r *rand.Rand, list ...T) T { return list[r.Intn(len(list))] }

// someName is a name of few components, in one of many forms; now and then one that is not safe.
func someName(r *rand.Rand) string {
	switch r.Intn(12) {
	case 0:
		return one(r, "/", "/a", "..", "../a", "a/../b", ".", "", "./", strings.Repeat("n", 256), "a\x00")
	case 1:
		return strings.Repeat(one(r, "a/", "b/", "long"), 1+r.Intn(300)) + "z"
	}
	name := one(r, "", "", "./", ".//")
	for range r.Intn(3) {
		name += one(r, "a", "b", "c") + one(r, "/", "/", "//", "/./")
	}
	return name + one(r, "a", "b", "c", "d") + one(r, "", "", "", "/", "/.")
}

// someHeader is all that a header says beside names.
func someHeader(r *rand.Rand) api.Header {
	h := api.Header{Form: one(r, api.Ustar, api.GNU, api.GNU), Mode: int64(r.Intn(4096)), UID: int64(r.Intn(9)), GID: int64(r.Intn(1 << 21)), Time: int64(r.Intn(1 << 33)), Type: one(r, byte('0'), '0', '0', '1', '1', '1', '2', '3', '5', '7')}
	if h.Form == api.GNU && r.Intn(3) > 0 {
		h.Time = int64(r.Uint64()) >> r.Intn(64)
	}
	h.User, h.Group = one(r, "", "u", "a user"), one(r, "", "g")
	return h
}

// someEntry is an entry in any form.
func someEntry(r *rand.Rand) string {
	data := strings.Repeat(one(r, "x", "\x00", "text "), one(r, 0, 1, r.Intn(300)))
	switch r.Intn(12) {
	case 0:
		return oldHoles("a", int64(20+r.Intn(5000)), []api.Range{{From: 2, To: 4}, {From: 10, To: 11}}, "abc")
	case 1:
		return paxHoles("b", int64(20+r.Intn(1<<23)), []api.Range{{From: 2, To: 4}, {From: 10, To: 11}}, "abc")
	case 2:
		return pairs('g', one(r, "uname", "gname", "comment"), one(r, "", "all"))
	}
	h := someHeader(r)
	ahead := ""
	if name := strings.Trim(someName(r), "\x00"); len(name) <= 100 && r.Intn(2) == 0 {
		h.Name = name
	} else if r.Intn(2) == 0 {
		ahead = long('L', name)
	} else {
		ahead = pairs('x', "path", name, "uid", "4294967295")
	}
	if h.Type == '1' || h.Type == '2' {
		h.Link = strings.Trim(someName(r), "\x00")
		if len(h.Link) > 100 {
			ahead += long('K', h.Link)
			h.Link = ""
		}
	}
	return ahead + made(h, data)
}

// someArchive is some entries and an end.
func someArchive(r *rand.Rand) []byte {
	text := ""
	for range r.Intn(12) {
		text += someEntry(r)
	}
	return []byte(text + one(r, end, end, zeroRecord, "", zeroRecord+"behind"))
}

// spoilt is bytes of which a few are other ones, or which are cut, or longer.
func spoilt(r *rand.Rand, b []byte) []byte {
	b = slices.Clone(b)
	for range 1 + r.Intn(2) {
		at := r.Intn(len(b) + 1)
		switch {
		case at == len(b) || r.Intn(6) == 0:
			b = b[:at]
		case r.Intn(8) == 0:
			b = append(b, "more"...)
		case r.Intn(8) == 0:
			b = slices.Insert(b, at, 'i')
		default:
			b[at] ^= 1 << r.Intn(8)
		}
	}
	return b
}

// P23.1 to P23.8: archives and names by chance, asked for all that they have, with the same bytes and others.
func TestChanceArchives(t *testing.T) {
	t.Parallel()
	follows, tells, stale, found := make(map[api.Errno]int), make(map[api.Errno]int), 0, 0
	for seed := range int64(1200) {
		r := rand.New(rand.NewSource(seed))
		b := someArchive(r)
		if r.Intn(8) == 0 {
			b = spoilt(r, b)
		}
		if _, _, why := reader.Read(b); why != api.OK {
			refused(t, b)
			continue
		}
		h := opened(t, b)
		h.above()
		if seed%4 == 0 {
			h.alone()
		}
		for range 10 {
			name := someName(r)
			if _, there := h.find(name); there {
				found++
			}
			h.under(name)
		}
		for range 3 {
			other := spoilt(r, b)
			for _, i := range h.beyond() {
				if i >= 0 && i < len(h.items) && !h.same(other, i) {
					stale++
				}
				_, why := h.follow(i)
				follows[why]++
				_, why = h.data(other, i)
				tells[why]++
			}
		}
	}
	for _, why := range []api.Errno{api.OK, api.ErrItem, api.ErrLink} {
		if follows[why] < 500 {
			t.Errorf("%d times %d", follows[why], why)
		}
	}
	for _, why := range []api.Errno{api.OK, api.ErrItem, api.ErrLink, api.ErrStale, api.ErrLong} {
		if tells[why] < 50 {
			t.Errorf("%d times %d", tells[why], why)
		}
	}
	if stale < 500 || found < 300 {
		t.Error(stale, found)
	}
}

// P23.1: bytes by chance: whatever they are, Make ends and tells what Read tells.
func TestChanceBytes(t *testing.T) {
	t.Parallel()
	for seed := range int64(3000) {
		r := rand.New(rand.NewSource(seed))
		b := make([]byte, r.Intn(3000))
		r.Read(b)
		if r.Intn(2) == 0 {
			copy(b, someArchive(r))
		}
		if _, _, why := reader.Read(b); why != api.OK {
			refused(t, b)
		} else {
			opened(t, b)
		}
	}
}

// P23.5: times by chance, of all lengths.
func TestChanceTimes(t *testing.T) {
	t.Parallel()
	r := rand.New(rand.NewSource(1))
	for range 20 {
		var times []int64
		for range 1000 {
			times = append(times, int64(r.Uint64())>>r.Intn(64))
		}
		daysOf(t, times...)
	}
}

// P23.4, P23.6: what the writer makes in each style has each file's bytes.
func TestWritten(t *testing.T) {
	l := []api.Packed{
		{Entry: api.Entry{Name: "d", Kind: api.Dir}}, {Entry: api.Entry{Name: "d/f", Kind: api.File, Size: 2000}, Data: append(make([]byte, 1999), 'x')},
		{Entry: api.Entry{Name: "h", Kind: api.HardLink, Link: "d/f"}}, {Entry: api.Entry{Name: "e", Kind: api.File}}, {Entry: api.Entry{Name: "s", Kind: api.Symlink, Link: "d"}},
	}
	for _, s := range []api.Style{{Form: api.V7}, {Form: api.Ustar}, {Form: api.GNU}, {Form: api.Pax}, {Form: api.GNU, Holes: 100}, {Form: api.Pax, Holes: 100}} {
		b, why := writer.Write(l, s)
		if why != api.OK {
			t.Fatal(why)
		}
		h := opened(t, b)
		h.alone()
		for i, want := range []struct {
			data []byte
			why  api.Errno
		}{{nil, api.ErrLink}, {l[1].Data, api.OK}, {l[1].Data, api.OK}, {nil, api.OK}, {nil, api.ErrLink}} {
			if data, why := h.data(b, i); data != string(want.data) || why != want.why {
				t.Errorf("%+v, %d: %s %d", s, i, brief([]byte(data)), why)
			}
		}
	}
}

// Two indexes of one archive are asked by two goroutines at one time.
func TestApart(t *testing.T) {
	b := []byte(motley())
	done := make(chan string)
	for range 2 {
		go func() {
			x, _, _ := index.Make(b)
			text := ""
			for i := range x.Len() {
				data, _ := x.Data(b, i)
				text += x.Line(i) + string(data)
			}
			done <- text
		}()
	}
	if first, second := <-done, <-done; first != second || first == "" {
		t.Error("two of one archive are not alike")
	}
}
