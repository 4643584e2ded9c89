package header_test

import (
	"math"
	"math/big"
	"math/rand"
	"strings"
	"testing"

	"satchel/api"
	"satchel/header"
)

// P13.3: Name with and without a Prefix; nothing else plays a part.
func TestName(t *testing.T) {
	for _, x := range []struct{ prefix, name, want string }{
		{"", "", ""},
		{"", "a", "a"},
		{"", "/a/", "/a/"},
		{"p", "", "p/"},
		{"p", "a", "p/a"},
		{"p/", "/a", "p///a"},
		{"/", "a", "//a"},
		{"\x00", "\xff", "\x00/\xff"},
		{strings.Repeat("p", 155), strings.Repeat("n", 100), strings.Repeat("p", 155) + "/" + strings.Repeat("n", 100)},
		{strings.Repeat("p", 5000), strings.Repeat("n", 5000), strings.Repeat("p", 5000) + "/" + strings.Repeat("n", 5000)},
	} {
		for _, h := range []api.Header{{}, plain(api.V7), plain(api.GNU), {Form: -1, Link: "link"}} {
			h.Prefix, h.Name = x.prefix, x.name
			if got := header.Name(h); got != x.want {
				t.Errorf("%q and %q: %q", x.prefix, x.name, got)
			}
		}
	}
}

// slashed is a name of so many bytes with slashes at the places.
func slashed(n int, places ...int) string {
	b := []byte(strings.Repeat("x", n))
	for _, at := range places {
		if at >= 0 && at < n {
			b[at] = '/'
		}
	}
	return string(b)
}

// P13.3: Cut at the edges that the chapter names.
func TestCut(t *testing.T) {
	for _, x := range []struct {
		name string
		at   int // the slash at which it is cut; 0: not cut, -1: refused
	}{
		{"", 0},
		{"a/b", 0},
		{"/", 0},
		{slashed(100), 0},
		{slashed(100, 50), 0},
		{slashed(100, 0, 99), 0},
		{slashed(101), -1},
		{slashed(101, 0), -1},
		{slashed(101, 1), 1},
		{slashed(101, 99), 99},
		{slashed(101, 100), -1},
		{slashed(101, 0, 100), -1},
		{slashed(101, 1, 100), 1},
		{slashed(101, 98, 99, 100), 99},
		{slashed(102, 0), -1},
		{slashed(102, 1), 1},
		{slashed(103, 1), -1},
		{slashed(103, 2), 2},
		{slashed(200, 98), -1},
		{slashed(200, 99), 99},
		{slashed(200, 155), 155},
		{slashed(200, 156), -1},
		{slashed(200, 98, 156), -1},
		{slashed(200, 99, 156), 99},
		{slashed(200, 99, 120, 156), 120},
		{slashed(156, 155), -1},
		{slashed(157, 155), 155},
		{slashed(256, 154), -1},
		{slashed(256, 155), 155},
		{slashed(256, 156), -1},
		{slashed(256, 154, 155, 156), 155},
		{slashed(257, 155), -1},
		{slashed(257, 156), -1},
		{strings.Repeat("/", 101), 99},
		{strings.Repeat("/", 256), 155},
		{strings.Repeat("/", 257), -1},
		{strings.Repeat("/", 5000), -1},
		{slashed(5000), -1},
	} {
		ahead, behind, why := header.Cut(x.name)
		switch x.at {
		case 0:
			if ahead != "" || behind != x.name || why != api.OK {
				t.Errorf("%q: %q %q %d", x.name, ahead, behind, why)
			}
		case -1:
			if ahead != "" || behind != "" || why != api.ErrFits {
				t.Errorf("%q: %q %q %d", x.name, ahead, behind, why)
			}
		default:
			if ahead != x.name[:x.at] || behind != x.name[x.at+1:] || why != api.OK {
				t.Errorf("%q: %q %q %d, not at %d", x.name, ahead, behind, why, x.at)
			}
		}
		heldCut(t, x.name)
	}
}

// P13.3, P13.6: names of each length with a slash at each place, and with another one beside it or far from it.
func TestCutAll(t *testing.T) {
	t.Parallel()
	for n := range 300 {
		heldCut(t, slashed(n))
		heldCut(t, slashed(n, 0))
		heldCut(t, slashed(n, n-1))
		for at := range n {
			heldCut(t, slashed(n, at))
			heldCut(t, slashed(n, at, at+1))
			heldCut(t, slashed(n, 0, at, n-1))
			heldCut(t, slashed(n, at, at+40))
		}
	}
	for _, n := range []int{101, 102, 156, 157, 158, 200, 255, 256, 257} {
		for a := range n {
			for b := range a {
				heldCut(t, slashed(n, a, b))
			}
		}
	}
}

// P13.3, P13.6: names by chance.
func TestCutChance(t *testing.T) {
	t.Parallel()
	chance := rand.New(rand.NewSource(13))
	seen := make(map[api.Errno]int)
	for range 100000 {
		b := []byte(noise(chance, chance.Intn(280)))
		for range chance.Intn(6) {
			if len(b) > 0 {
				b[chance.Intn(len(b))] = '/'
			}
		}
		if len(b) > 100 {
			seen[heldCut(t, string(b))]++
		} else {
			heldCut(t, string(b))
		}
	}
	if seen[api.OK] < 10000 || seen[api.ErrFits] < 10000 {
		t.Errorf("%d are cut, %d refused", seen[api.OK], seen[api.ErrFits])
	}
}

// P13.2, P13.3, P13.6: what Cut takes a record of ustar takes, and says it again.
func TestCutFits(t *testing.T) {
	for n := 1; n < 260; n++ {
		for _, at := range []int{0, 1, n - 101, n - 100, n / 2, 154, 155, 156, n - 2, n - 1} {
			name := slashed(n, at)
			ahead, behind, why := header.Cut(name)
			if why != api.OK {
				continue
			}
			h := api.Header{Form: api.Ustar, Type: '0', Name: behind, Prefix: ahead}
			r, why := heldEncode(t, h)
			if why != api.OK {
				t.Fatalf("%q: %d", name, why)
			}
			if got, _, _ := header.Decode(r); header.Name(got) != name {
				t.Fatalf("%q has become %q", name, header.Name(got))
			}
		}
	}
}

// P13.4: Records and Pad, at the sizes that the document names and all small ones, as whole numbers.
func TestRecords(t *testing.T) {
	for _, x := range []struct {
		size, records int64
		pad           int
	}{
		{math.MinInt64, 0, 0},
		{math.MinInt64 + 1, 0, 0},
		{-513, 0, 0}, {-512, 0, 0}, {-511, 0, 0}, {-1, 0, 0},
		{0, 0, 0},
		{1, 1, 511}, {2, 1, 510}, {511, 1, 1}, {512, 1, 0},
		{513, 2, 511}, {1023, 2, 1}, {1024, 2, 0}, {1025, 3, 511},
		{math.MaxInt64 - 512, 1<<54 - 1, 1},
		{math.MaxInt64 - 511, 1<<54 - 1, 0},
		{math.MaxInt64 - 510, 1 << 54, 511},
		{math.MaxInt64 - 1, 1 << 54, 2},
		{math.MaxInt64, 1 << 54, 1},
	} {
		if header.Records(x.size) != x.records || header.Pad(x.size) != x.pad {
			t.Errorf("%d: %d records, %d more", x.size, header.Records(x.size), header.Pad(x.size))
		}
	}
	for size := int64(-2000); size < 10000; size++ {
		heldSize(t, size)
	}
	for _, size := range edges() {
		heldSize(t, size)
	}
	chance := rand.New(rand.NewSource(13))
	for range 100000 {
		heldSize(t, int64(chance.Uint64())>>chance.Intn(64))
	}
}

// heldSize holds Records and Pad to what the words say: so many records have room for size bytes, and one fewer has not.
func heldSize(t *testing.T, size int64) {
	t.Helper()
	n, pad := header.Records(size), header.Pad(size)
	if size < 1 {
		if n != 0 || pad != 0 {
			t.Fatalf("%d: %d records, %d more", size, n, pad)
		}
		return
	}
	room := new(big.Int).Mul(big.NewInt(n), big.NewInt(512))
	more := room.Sub(room, big.NewInt(size))
	if more.Cmp(big.NewInt(int64(pad))) != 0 || pad < 0 || pad > 511 {
		t.Fatalf("%d: %d records, %d more", size, n, pad)
	}
}
