package quota_test

import (
	"math/rand"
	"strings"
	"testing"

	"satchel/api"
)

// deep is a name of so many components.
func deep(n int) string {
	return strings.Repeat("d/", n-1) + "f"
}

// bad is a name that path.Split refuses, and why.
type bad struct {
	name string
	why  api.Errno
}

// badNames are refused in each of Split's ways, alone and with the next one's fault beside it.
func badNames() []bad {
	long := strings.Repeat("x", 256)
	return []bad{
		{strings.Repeat("x/", 2048) + "x", api.ErrLong},
		{"/\x00../" + strings.Repeat("x", 4096), api.ErrLong},
		{"a\x00", api.ErrZero},
		{"\x00", api.ErrZero},
		{"/a\x00", api.ErrZero},
		{"/a", api.ErrAbsolute},
		{"/", api.ErrAbsolute},
		{"/..", api.ErrAbsolute},
		{"..", api.ErrDots},
		{"../b", api.ErrDots},
		{"a/../b", api.ErrDots},
		{"a/..", api.ErrDots},
		{"", api.ErrEmpty},
		{".", api.ErrEmpty},
		{".//./", api.ErrEmpty},
		{long, api.ErrName},
		{"a/" + long, api.ErrName},
		{deep(257) + "/" + long, api.ErrName},
		{deep(257), api.ErrDeep},
		{deep(2000), api.ErrDeep},
	}
}

// kinds are those there are, and numbers that are none.
var kinds = []int{api.Dir, api.File, api.Symlink, api.HardLink, api.Device, 0, 6, -1, mostInt, leastInt}

// sizes about the bytes that are left, if they are so many.
func sizesAbout(left int64) []int64 {
	return []int64{leastBytes, -left - 1, -1, 0, 1, left - 1, left, left + 1, 1 << 32, mostBytes - 1, mostBytes}
}

// P18.2: each kind of entry needs one entry, and a File its bytes.
func TestTakeKinds(t *testing.T) {
	for _, kind := range kinds {
		b := newBoth(t, api.Quota{Bytes: 10, Entries: 5, Depth: 3})
		if why := b.take(t, api.Entry{Name: "a/b", Kind: kind, Size: 4}); why != api.OK {
			t.Errorf("kind %d: %d", kind, why)
		}
		want := api.Quota{Entries: 1}
		if kind == api.File {
			want.Bytes = 4
		}
		if got := b.meter.Used(); got != want {
			t.Errorf("kind %d: used %v, not %v", kind, got, want)
		}
	}
}

// P18.2, P18.6: the size of anything but a File is neither asked nor taken.
func TestTakeSizesOfOthers(t *testing.T) {
	for _, kind := range kinds {
		if kind == api.File {
			continue
		}
		for _, size := range sizesAbout(10) {
			b := newBoth(t, api.Quota{Bytes: 10, Entries: 2, Depth: 1})
			e := api.Entry{Name: "a", Kind: kind, Size: size}
			if b.take(t, e) != api.OK || b.meter.Used() != (api.Quota{Entries: 1}) {
				t.Errorf("Take of kind %d, size %d: used %v", kind, size, b.meter.Used())
			}
			if b.back(t, e) != api.OK || b.meter.Used() != (api.Quota{}) {
				t.Errorf("Back of kind %d, size %d: used %v", kind, size, b.meter.Used())
			}
		}
	}
}

// P18.2: sizes of Files about what is left, at the greatest and the least number there is.
func TestTakeSizes(t *testing.T) {
	for _, x := range []struct {
		bytes, taken, size int64
		why                api.Errno
	}{
		{10, 0, 10, api.OK},
		{10, 0, 11, api.ErrQuota},
		{10, 0, 0, api.OK},
		{10, 0, -1, api.ErrArg},
		{10, 0, leastBytes, api.ErrArg},
		{10, 0, mostBytes, api.ErrQuota},
		{10, 7, 3, api.OK},
		{10, 7, 4, api.ErrQuota},
		{10, 7, mostBytes, api.ErrQuota},
		{10, 7, mostBytes - 6, api.ErrQuota},
		{10, 7, leastBytes, api.ErrArg},
		{10, 10, 0, api.OK},
		{10, 10, 1, api.ErrQuota},
		{10, 10, -1, api.ErrArg},
		{0, 0, 0, api.OK},
		{0, 0, 1, api.ErrQuota},
		{0, 0, -1, api.ErrArg},
		{mostBytes, 0, mostBytes, api.OK},
		{mostBytes, 1, mostBytes, api.ErrQuota},
		{mostBytes, 1, mostBytes - 1, api.OK},
		{mostBytes, mostBytes, 0, api.OK},
		{mostBytes, mostBytes, 1, api.ErrQuota},
		{mostBytes, mostBytes, mostBytes, api.ErrQuota},
		{mostBytes, mostBytes, -1, api.ErrArg},
		{mostBytes, mostBytes, leastBytes, api.ErrArg},
		{mostBytes - 1, 0, mostBytes, api.ErrQuota},
	} {
		b := newBoth(t, api.Quota{Bytes: x.bytes, Entries: 9, Depth: 1})
		if why := b.take(t, file("a", x.taken)); why != api.OK {
			t.Fatalf("Take of %d: %d", x.taken, why)
		}
		if why := b.take(t, file("b", x.size)); why != x.why {
			t.Errorf("of %d, %d taken, Take of %d: %d, not %d", x.bytes, x.taken, x.size, why, x.why)
		}
	}
}

// P18.2: as many entries as there may be, and one more.
func TestTakeEntries(t *testing.T) {
	for _, n := range []int{0, 1, 2, 300} {
		b := newBoth(t, api.Quota{Bytes: 1000, Entries: n, Depth: 1})
		for i := range n {
			if why := b.take(t, api.Entry{Name: "a", Kind: kinds[i%len(kinds)], Size: 1}); why != api.OK {
				t.Fatalf("entry %d of %d: %d", i, n, why)
			}
		}
		for _, kind := range kinds {
			if why := b.take(t, api.Entry{Name: "a", Kind: kind}); why != api.ErrEntries {
				t.Errorf("beyond %d, kind %d: %d", n, kind, why)
			}
		}
	}
	b := newBoth(t, api.Quota{Entries: mostInt, Depth: mostInt})
	if b.take(t, dir("a")) != api.OK || b.meter.Left().Entries != mostInt-1 {
		t.Errorf("left %v", b.meter.Left())
	}
}

// P18.2: names of as many components as Depth and one more, however they are written.
func TestTakeDepth(t *testing.T) {
	for _, depth := range []int{0, 1, 2, 3, 10, 255, 256, 257, 1000, mostInt} {
		for _, n := range []int{1, 2, 3, 4, 10, 11, 255, 256, 257, 258, 1000} {
			want := api.OK
			if n > 256 {
				want = api.ErrDeep
			} else if n > depth {
				want = api.ErrDepth
			}
			name := deep(n)
			for _, same := range []string{name, "./" + name, name + "/", strings.ReplaceAll(name, "/", "//"), strings.Replace(name, "/", "/././", 1)} {
				for _, kind := range kinds {
					b := newBoth(t, api.Quota{Bytes: 9, Entries: 1, Depth: depth})
					if why := b.take(t, api.Entry{Name: same, Kind: kind, Size: 9}); why != want {
						t.Fatalf("Depth %d, %d components, kind %d: %d, not %d", depth, n, kind, why, want)
					}
				}
			}
		}
	}
}

// P18.2: names that path.Split refuses, in each of its ways, for every kind: its own error, and nothing is taken.
func TestTakeBadNames(t *testing.T) {
	seen := map[api.Errno]bool{}
	for _, x := range badNames() {
		seen[x.why] = true
		for _, kind := range kinds {
			b := newBoth(t, api.Quota{Bytes: 10, Entries: 1, Depth: 256})
			if why := b.take(t, api.Entry{Name: x.name, Kind: kind, Size: 1}); why != x.why {
				t.Errorf("%.30q, kind %d: %d, not %d", x.name, kind, why, x.why)
			}
			if b.meter.Used() != (api.Quota{}) {
				t.Errorf("%.30q: used %v", x.name, b.meter.Used())
			}
		}
	}
	if len(seen) != 7 {
		t.Errorf("%d of Split's errors", len(seen))
	}
}

// P18.2: the faults, one by one and all choices of several, in the order of the words: the first one is told.
func TestTakeOrder(t *testing.T) {
	for _, none := range []bool{false, true} {
		for _, x := range append(badNames(), bad{"a/b", api.OK}) {
			for _, below := range []bool{false, true} {
				for _, size := range []int64{5, -1, leastBytes, 11, mostBytes} {
					holdOrder(t, none, x, below, size)
				}
			}
		}
	}
}

// holdOrder takes an entry with some faults: none is left; its name; Depth is below what it has; its size.
func holdOrder(t *testing.T, none bool, x bad, below bool, size int64) {
	t.Helper()
	q := api.Quota{Bytes: 10, Entries: 1, Depth: 256}
	if none {
		q.Entries = 0
	}
	if below {
		q.Depth = 1
	}
	want := api.OK
	switch {
	case none:
		want = api.ErrEntries
	case x.why != api.OK:
		want = x.why
	case below:
		want = api.ErrDepth
	case size < 0:
		want = api.ErrArg
	case size > 10:
		want = api.ErrQuota
	}
	if why := newBoth(t, q).take(t, file(x.name, size)); why != want {
		t.Errorf("%v, %.30q, %d: %d, not %d", q, x.name, size, why, want)
	}
}

// P18.2: Back, written out: of what was taken and of what was not, of more bytes or entries than were.
func TestBackWrittenOut(t *testing.T) {
	b := newBoth(t, api.Quota{Bytes: 10, Entries: 3, Depth: 1})
	for i, x := range []struct {
		back bool
		e    api.Entry
		why  api.Errno
		used api.Quota
	}{
		{true, file("a", 0), api.ErrArg, api.Quota{}},
		{true, dir("a"), api.ErrArg, api.Quota{}},
		{true, file("a", -1), api.ErrArg, api.Quota{}},
		{false, file("a", 7), api.OK, api.Quota{Bytes: 7, Entries: 1}},
		{true, file("a", 8), api.ErrArg, api.Quota{Bytes: 7, Entries: 1}},
		{true, file("a", mostBytes), api.ErrArg, api.Quota{Bytes: 7, Entries: 1}},
		{true, file("a", -1), api.ErrArg, api.Quota{Bytes: 7, Entries: 1}},
		{true, file("a", leastBytes), api.ErrArg, api.Quota{Bytes: 7, Entries: 1}},
		{true, dir("a"), api.OK, api.Quota{Bytes: 7}},
		{true, file("a", 7), api.ErrArg, api.Quota{Bytes: 7}}, // the bytes are there, the entry is not
		{true, dir("a"), api.ErrArg, api.Quota{Bytes: 7}},
		{false, dir("d"), api.OK, api.Quota{Bytes: 7, Entries: 1}},
		{true, file("other", 3), api.OK, api.Quota{Bytes: 4}}, // never taken, but as much was
		{false, file("b", 6), api.OK, api.Quota{Bytes: 10, Entries: 1}},
		{false, api.Entry{Name: "s", Kind: api.Symlink, Size: 99}, api.OK, api.Quota{Bytes: 10, Entries: 2}},
		{true, api.Entry{Kind: api.Symlink, Size: -99}, api.OK, api.Quota{Bytes: 10, Entries: 1}},
		{true, file("", 10), api.OK, api.Quota{}},
		{true, file("", 0), api.ErrArg, api.Quota{}},
		{false, file("c", 10), api.OK, api.Quota{Bytes: 10, Entries: 1}},
	} {
		if why := b.held(t, call{x.back, x.e}); why != x.why || b.meter.Used() != x.used {
			t.Errorf("step %d: %d, used %v; want %d, %v", i, why, b.meter.Used(), x.why, x.used)
		}
	}
}

// P18.2: Back asks nothing of the name, and nothing of the depth.
func TestBackNames(t *testing.T) {
	for _, x := range append(badNames(), bad{name: "a/b/c"}, bad{name: "other"}) {
		b := newBoth(t, api.Quota{Bytes: 10, Entries: 1, Depth: 1})
		b.take(t, file("a", 6))
		if why := b.back(t, file(x.name, 6)); why != api.OK {
			t.Errorf("Back of %.30q: %d", x.name, why)
		}
	}
}

// P18.2: Back of every kind and size, with more, as much and less taken.
func TestBackSizes(t *testing.T) {
	for _, taken := range []int64{-1, 0, 1, 10, mostBytes} { // -1: nothing at all
		for _, kind := range kinds {
			for _, size := range sizesAbout(max(taken, 0)) {
				b := newBoth(t, api.Quota{Bytes: mostBytes, Entries: 1, Depth: 1})
				if taken >= 0 {
					b.take(t, file("a", taken))
				}
				want := api.OK
				if taken < 0 || kind == api.File && (size < 0 || size > taken) {
					want = api.ErrArg
				}
				if why := b.back(t, api.Entry{Kind: kind, Size: size}); why != want {
					t.Errorf("%d taken, Back of kind %d, size %d: %d, not %d", taken, kind, size, why, want)
				}
			}
		}
	}
}

// P18.2, P18.3, P18.5: every way of four calls on small quotas.
func TestEveryWay(t *testing.T) {
	calls := []call{
		{false, file("a", 0)}, {false, file("a", 1)}, {false, file("a", 2)}, {false, file("a", -1)}, {false, dir("a")}, {false, file("a/b", 1)},
		{true, file("a", 0)}, {true, file("a", 1)}, {true, file("a", 2)}, {true, file("a", -1)}, {true, dir("a")},
	}
	ways := 1
	for range 4 {
		ways *= len(calls)
	}
	for _, q := range []api.Quota{{}, {Bytes: 2, Entries: 2, Depth: 1}, {Bytes: 3, Entries: 1, Depth: 2}, {Bytes: 1, Entries: 3, Depth: 2}, {Bytes: 2, Entries: 4}} {
		for way := range ways {
			b := newBoth(t, q)
			for range 4 {
				b.held(t, calls[way%len(calls)])
				way /= len(calls)
			}
		}
	}
}

// some is one of a list by chance.
func some[T any](r *rand.Rand, list []T) T {
	return list[r.Intn(len(list))]
}

// P18.2, P18.3, P18.5: long runs of calls by chance; what is left is always a bound that is met.
func TestByChance(t *testing.T) {
	r := rand.New(rand.NewSource(1818))
	names := []string{"a", "a/b", "a/b/c", "./a//b/", "..", "", "/a", "a\x00"}
	for range 400 {
		q := api.Quota{Bytes: r.Int63() >> r.Intn(63), Entries: r.Intn(40), Depth: r.Intn(4)}
		b := newBoth(t, q)
		for range 100 {
			left, used := b.meter.Left(), b.meter.Used()
			size := some(r, append(sizesAbout(left.Bytes), append(sizesAbout(used.Bytes), r.Int63()>>r.Intn(63))...))
			b.held(t, call{r.Intn(3) == 0, api.Entry{Name: some(r, names), Kind: some(r, kinds), Size: size}})
		}
	}
}

// P18.6: everything else that an entry says plays no part.
func TestWhatDoesNotCount(t *testing.T) {
	r := rand.New(rand.NewSource(186))
	for range 3000 {
		e := api.Entry{Name: some(r, []string{"a", "a/b", "..", ""}), Kind: some(r, kinds), Size: some(r, sizesAbout(10))}
		other := e
		other.Meta = api.Meta{Mode: r.Uint32(), Uid: r.Uint32(), Gid: r.Uint32(), Time: int64(r.Uint64()), Nano: int32(r.Uint32())}
		other.User, other.Group = some(r, []string{"", "u", "\x00"}), some(r, []string{"", "g", "/"})
		other.Link = some(r, []string{"", "..", "/etc", "a\x00", strings.Repeat("x", 5000)})
		other.Type = byte(r.Intn(256))
		if e.Kind != api.File {
			other.Size = some(r, sizesAbout(3))
		}
		q := api.Quota{Bytes: 10, Entries: r.Intn(3), Depth: r.Intn(3)}
		one, two := newBoth(t, q), newBoth(t, q)
		for _, back := range []bool{false, true, true} {
			if one.held(t, call{back, e}) != two.held(t, call{back, other}) || one.meter.Left() != two.meter.Left() || one.meter.Used() != two.meter.Used() {
				t.Fatalf("of %v: %v is not %v", q, e, other)
			}
		}
	}
}

// P18.2: two meters do not touch each other, also of one quota.
func TestMetersStandAlone(t *testing.T) {
	q := api.Quota{Bytes: 10, Entries: 2, Depth: 1}
	one, two := newBoth(t, q), newBoth(t, q)
	if one.take(t, file("a", 10)) != api.OK || one.take(t, dir("d")) != api.OK {
		t.Error("not taken")
	}
	two.holdSums(t)
	if two.meter.Left() != q || two.back(t, dir("d")) != api.ErrArg {
		t.Errorf("left %v", two.meter.Left())
	}
	if two.take(t, file("a", 9)) != api.OK {
		t.Error("not taken")
	}
	one.holdSums(t)
}
