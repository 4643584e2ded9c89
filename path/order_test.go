package path_test

import (
	"math/rand"
	"slices"
	"strings"
	"testing"

	"satchel/api"
	"satchel/path"
)

// texts are components, and what can't be one, in their order.
var texts = []string{"", "\x00", "\x00\x00", "\x01", ".", "..", "/", "a", "a\x00", "a.", "a/", "aa", "b", "\x7f", "\x80", "é", "\xff", "\xff\x00", "\xff\xff"}

// P9.3: the texts alone, byte by byte, as numbers from 0 to 255.
func TestCompareTexts(t *testing.T) {
	for i := range texts {
		for j := range texts {
			want := 0
			if i < j {
				want = -1
			} else if i > j {
				want = 1
			}
			if x := path.Compare(texts[i:i+1], texts[j:j+1]); x != want {
				t.Errorf("Compare(%q, %q): %d", texts[i], texts[j], x)
			}
			heldTwo(t, texts[i:i+1], texts[j:j+1])
		}
	}
}

// P9.3: lists that are empty, alike, the one a beginning of the other; all pairs of short ones.
func TestCompareLists(t *testing.T) {
	t.Parallel()
	all := upTo(texts, 2)
	for _, a := range all {
		for _, b := range all {
			heldTwo(t, a, b)
		}
	}
	all = upTo([]string{"", "a", "b"}, 5)
	for _, a := range all {
		for _, b := range all {
			heldTwo(t, a, b)
		}
	}
}

// P9.3: no list is ahead of, or under, itself; the empty one is ahead of all others, and they are under it.
func TestEnds(t *testing.T) {
	for _, a := range upTo(texts, 2) {
		if path.Compare(a, slices.Clone(a)) != 0 || path.Under(a, slices.Clone(a)) {
			t.Errorf("%q and itself", a)
		}
		if len(a) > 0 && (path.Compare(nil, a) != -1 || path.Compare(a, nil) != 1 || !path.Under(a, nil) || path.Under(nil, a)) {
			t.Errorf("%q and the empty list", a)
		}
	}
	if path.Compare(nil, []string{}) != 0 || path.Under(nil, []string{}) || path.Under([]string{}, nil) {
		t.Error("nil and empty")
	}
}

// P9.8: of any three, what is ahead of what is ahead is ahead; of two one is, or they are alike.
func TestTotalOrder(t *testing.T) {
	t.Parallel()
	all := upTo([]string{"", "a", "a.", "a\x00", "b", "\xff"}, 2)
	for _, a := range all {
		for _, b := range all {
			ab := path.Compare(a, b)
			if path.Compare(b, a) != -ab || (ab == 0) != slices.Equal(a, b) {
				t.Fatalf("%q and %q: %d", a, b, ab)
			}
			for _, c := range all {
				if ab <= 0 && path.Compare(b, c) <= 0 && path.Compare(a, c) > min(0, ab) {
					t.Fatalf("%q, %q, %q", a, b, c)
				}
			}
		}
	}
}

// P9.8: in their order a directory stands just ahead of all that is under it, which stands together.
func TestTogether(t *testing.T) {
	t.Parallel()
	all := upTo([]string{"", "a", "a.", "a-b", "a\x00", "b", "\xff"}, 3)
	rand.New(rand.NewSource(9)).Shuffle(len(all), func(i, j int) { all[i], all[j] = all[j], all[i] })
	slices.SortFunc(all, path.Compare)
	for i, dir := range all {
		under := 0
		for _, x := range all {
			if path.Under(x, dir) {
				under++
			}
		}
		for _, x := range all[i+1 : i+1+under] {
			if !path.Under(x, dir) {
				t.Fatalf("%q is between what is under %q", x, dir)
			}
		}
	}
}

// P9.5: all targets of up to five pieces, from the top and from below it.
func TestLeavesAll(t *testing.T) {
	t.Parallel()
	dirs := [][]string{nil, {}, {"a"}, {".."}, {""}, {"."}, {"a/b"}, {"a", "b"}, {"..", ".."}, {"a", "b", "c"}}
	for _, pieces := range upTo([]string{"", ".", "..", "...", "..a", "a", "\x00", "..\x00"}, 5) {
		target := strings.Join(pieces, "/")
		for _, dir := range dirs {
			heldTarget(t, dir, target)
		}
	}
}

// P9.5: ".." met at the top, and just not; what goes down again behind it; slashes; nothing.
func TestLeavesEdges(t *testing.T) {
	for _, x := range []struct {
		dir    string
		target string
		want   bool
	}{
		{"", "", false},
		{"", ".", false},
		{"", "./", false},
		{"", "..", true},
		{"", "../", true},
		{"", "./..", true},
		{"", "a/..", false},
		{"", "a/../..", true},
		{"", "a//../..", true},
		{"", "a/./../..", true},
		{"", "../a", true},
		{"", "..a", false},
		{"", "...", false},
		{"", "a..", false},
		{"", "/", true},
		{"", "//", true},
		{"", "a//", false},
		{"", "\x00", false},
		{"a", "", false},
		{"a", "/", true},
		{"a", "/a", true},
		{"a", "..", false},
		{"a", "../", false},
		{"a", "../..", true},
		{"a", "../../a", true},
		{"a", "../a/..", false},
		{"a", "../a/../..", true},
		{"a", "b/../../c", false},
		{"a", "b/../../../c/d/e", true},
		{"a b", "../../c/..", false},
		{"a b", "../../c/../..", true},
		{".. ..", "../..", false}, // dir's parts count, whatever they are
		{".. ..", "../../..", true},
	} {
		if got := path.Leaves(strings.Fields(x.dir), x.target); got != x.want {
			t.Errorf("Leaves({%s}, %q): %t", x.dir, x.target, got)
		}
		heldTarget(t, strings.Fields(x.dir), x.target)
	}
}

// P9.5: how deep or long a target is plays no part.
func TestLeavesDeep(t *testing.T) {
	const deep = 5000
	down, back := strings.Repeat("a/", deep), strings.Repeat("../", deep)
	for _, x := range []struct {
		dir    []string
		target string
		want   bool
	}{
		{nil, down, false},
		{nil, down + back, false},
		{nil, down + back + "..", true},
		{nil, strings.Repeat("a/../", deep), false},
		{nil, strings.Repeat("./", deep) + "..", true},
		{nil, "a" + strings.Repeat("/", deep), false},
		{times("a", deep), back, false},
		{times("a", deep), back + "..", true},
		{times("a", deep), back + down, false},
		{times("a", deep), back + "../" + down, true},
		{times("a", deep), "/" + down, true},
	} {
		if got := path.Leaves(x.dir, x.target); got != x.want {
			t.Errorf("Leaves of %d parts, %.20q, %d bytes: %t", len(x.dir), x.target, len(x.target), got)
		}
	}
}

// P9.1 to P9.7: names, lists and targets by chance.
func TestChance(t *testing.T) {
	t.Parallel()
	r := rand.New(rand.NewSource(9))
	pieces := []string{"", ".", "..", "a", "bb", "..c", "d..", "\x00", a255, a256, "\xff", "x", "y", "z"}
	seen := make(map[api.Errno]int)
	for range 10000 {
		from := pieces
		if r.Intn(2) == 0 {
			from = []string{"", ".", "a", "b", a255, "...", "c"} // so that many names can be
		}
		var list []string
		for range 1 + r.Intn(8) {
			list = append(list, slices.Repeat([]string{some(r, from)}, 1+r.Intn(2)*r.Intn(2)*r.Intn(200))...)
		}
		name := strings.Join(list, "/")
		seen[heldName(t, name)]++
		if len(list) < 300 {
			heldParts(t, list)
			n := r.Intn(len(list) + 1)
			heldPlace(t, list[:n], list[n:])
			heldStrip(t, list, r.Intn(len(list)+2)-1)
			heldTarget(t, list[:n], strings.Join(list[n:], "/"))
		}
	}
	for _, why := range []api.Errno{api.OK, api.ErrLong, api.ErrZero, api.ErrAbsolute, api.ErrDots, api.ErrEmpty, api.ErrName, api.ErrDeep} {
		if seen[why] == 0 {
			t.Errorf("no name with %d", why)
		}
	}
}
