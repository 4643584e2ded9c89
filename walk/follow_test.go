package walk_test

import (
	"fmt"
	"strings"
	"testing"

	"satchel/api"
	"satchel/vfs"
	"satchel/walk"
)

// The errors as numbers: no inode of these tests' tables has so great a one.
const (
	none    = int(api.ErrNone)
	notDir  = int(api.ErrNotDir)
	hops    = int(api.ErrHops)
	outside = int(api.ErrOutside)
)

// followed is Follow's answer, held to the model: the place, or the error.
func followed(t *testing.T, f *vfs.FS, top, dir int, name string, last bool) int {
	t.Helper()
	var n int
	var why api.Errno
	h := held{t, f}
	h.unchanged("Follow", func() { n, why = h.follow(modelOf(f), top, dir, name, last) })
	if why != api.OK {
		return int(why)
	}
	return n
}

// P11.4: the chapter's examples.
func TestExamplesOfFollow(t *testing.T) {
	f := example(t)
	for _, x := range []struct {
		name string
		last bool
		want int
	}{
		{"s", true, 6}, {"s", false, 3}, {"t", true, hops}, {"u/f", true, 6}, {"a/f/", true, notDir},
		{"a/../../a", true, 2}, {"/", true, 1}, {"", true, none},
	} {
		if got := followed(t, f, 1, 1, x.name, x.last); got != x.want {
			t.Errorf("%q: %d", x.name, got)
		}
	}
}

// linked is a tree with links of all sorts.
func linked(t *testing.T) *vfs.FS {
	return grown(t,
		"a/", "a/b/", "a/b/c/", // 2 to 4
		"f", "a/f", "a/b/f", // 5 to 7
		"lf -> f", "ld -> a", "ln -> nothing", "self -> self", // 8 to 11
		"c1 -> c2", "c2 -> c1", // 12, 13
		"root -> /", "ups -> ../../../../..", "lds -> a/", "lfs -> f/", // 14 to 17
		"a/up -> ..", "a/abs -> /a/b", "a/b/mid -> ../up/a/b/c", // 18 to 20
		"lld -> ld", "a/b/llf -> ../../lf", "dot -> .", "many -> a//./b/../b/.", // 21 to 24
		"lx -> a/nothing", "lfx -> f/x", "llong -> "+a255+"5", "slashes -> ///a", // 25 to 28
		"a/h = ld", "a/b/c/up -> ../../..", "lups -> a/b/c/up", "lfdot -> f/.", "lfup -> f/..", // 29 to 32
		"long -> "+strings.Repeat("a/../", 819)+"a", // 33: 4096 bytes
	)
}

// P11.4: pieces that lead nowhere, up, and down, with no link in the way.
func TestFollowOfPieces(t *testing.T) {
	f := linked(t)
	for _, x := range []struct {
		top, dir int
		name     string
		want     int
	}{
		{1, 1, "", none}, {1, 3, "", none}, {3, 3, "", none},
		{1, 1, "/", 1}, {1, 3, "/", 1}, {2, 3, "/", 2}, {3, 3, "/", 3}, {1, 4, "//", 1}, {2, 4, "////", 2},
		{1, 1, ".", 1}, {1, 3, ".", 3}, {1, 3, "./", 3}, {1, 3, "././.", 3}, {1, 3, ".//.", 3}, {1, 3, "/.", 1},
		{1, 1, "..", 1}, {1, 2, "..", 1}, {2, 2, "..", 2}, {1, 3, "..", 2}, {2, 3, "..", 2}, {3, 3, "..", 3},
		{1, 4, "../", 3}, {1, 4, "../..", 2}, {1, 4, "../../..", 1}, {1, 4, "../../../..", 1}, {2, 4, "../../..", 2},
		{1, 4, "/..", 1}, {2, 4, "/../..", 2}, {3, 4, "/../b", none}, {2, 4, "/../b", 3},
		{1, 1, "a", 2}, {1, 1, "/a", 2}, {1, 4, "/a", 2}, {2, 4, "/b", 3}, {2, 4, "/a", none}, {1, 2, "a", none}, {1, 2, "b", 3},
		{1, 1, "a/", 2}, {1, 1, "a//", 2}, {1, 1, "a///b", 3}, {1, 1, "///a///b///", 3}, {1, 1, "a/./b", 3}, {1, 1, "./a", 2},
		{1, 1, "a/.", 2}, {1, 1, "a/..", 1}, {1, 1, "a/../a/../a", 2}, {1, 1, "../a", 2}, {1, 1, "a/../../a", 2},
		{1, 1, "f", 5}, {1, 1, "/f", 5}, {1, 1, "a/f", 6}, {1, 1, "a/b/f", 7}, {1, 4, "../f", 7}, {3, 4, "../../../f", 7},
		{1, 1, "f/", notDir}, {1, 1, "f//", notDir}, {1, 1, "f/.", notDir}, {1, 1, "f/..", notDir}, {1, 1, "f/x", notDir},
		{1, 1, "f/../a", notDir}, {1, 1, "f/./a", notDir}, {1, 1, "f//a", notDir}, {1, 1, "a/f/..", notDir}, {1, 1, "f/f", notDir},
		{1, 1, "x", none}, {1, 1, "x/", none}, {1, 1, "x/..", none}, {1, 1, "x/../a", none}, {1, 1, "a/x", none}, {1, 1, "a/x/f", none},
		{1, 1, "...", none}, {1, 1, "..a", none}, {1, 1, ". ", none}, {1, 1, "a\x00", none}, {1, 1, "\x00", none},
		{1, 1, a255 + "5", none}, {1, 1, "a/" + a255 + "5/..", none}, {1, 1, "f/" + a255 + "5", notDir}, {1, 1, "f/\x00", notDir},
	} {
		for _, last := range []bool{true, false} {
			if got := followed(t, f, x.top, x.dir, x.name, last); got != x.want {
				t.Errorf("Follow(%d, %d, %q, %v): %d, not %d", x.top, x.dir, x.name, last, got, x.want)
			}
		}
	}
}

// P11.4: tops and directories that are not there, no directories, or not inside, ahead of the name.
func TestFollowOutside(t *testing.T) {
	f := linked(t)
	for _, name := range []string{"", "/", "a", "..", "self", "f/"} {
		for _, x := range []struct{ top, dir int }{
			{1, 5}, {5, 5}, {1, 9}, {9, 9}, {9, 2}, {5, 1}, {2, 1}, {3, 2}, {4, 3}, {1, 0}, {0, 1}, {-1, -1}, {1, 99}, {99, 1}, {99, 99},
		} {
			if got := followed(t, f, x.top, x.dir, name, true); got != outside {
				t.Errorf("Follow(%d, %d, %q): %d", x.top, x.dir, name, got)
			}
		}
	}
}

// P11.4, P11.8: links at the end, where last says whether they are followed; in the middle; with slashes behind them; and in targets.
func TestFollowOfLinks(t *testing.T) {
	f := linked(t)
	for _, x := range []struct {
		top, dir int
		name     string
		on, not  int // with last, and without
	}{
		{1, 1, "lf", 5, 8}, {1, 1, "/lf", 5, 8}, {1, 4, "/lf", 5, 8}, {1, 4, "../../../lf", 5, 8},
		{1, 1, "lf/", notDir, notDir}, {1, 1, "lf/.", notDir, notDir}, {1, 1, "lf/..", notDir, notDir}, {1, 1, "lf/x", notDir, notDir},
		{1, 1, "ld", 2, 9}, {1, 1, "ld/", 2, 2}, {1, 1, "ld/.", 2, 2}, {1, 1, "ld/..", 1, 1}, {1, 1, "ld//", 2, 2},
		{1, 1, "ld/b", 3, 3}, {1, 1, "ld/f", 6, 6}, {1, 1, "ld/x", none, none}, {1, 1, "ld/f/", notDir, notDir},
		{1, 1, "ln", none, 10}, {1, 1, "ln/", none, none}, {1, 1, "ln/..", none, none}, {1, 1, "ln/x", none, none},
		{1, 1, "lx", none, 25}, {1, 1, "lfx", notDir, 26}, {1, 1, "llong", none, 27}, {1, 1, "lfdot", notDir, 31}, {1, 1, "lfup", notDir, 32},
		{1, 1, "self", hops, 11}, {1, 1, "self/", hops, hops}, {1, 1, "self/..", hops, hops},
		{1, 1, "c1", hops, 12}, {1, 1, "c2", hops, 13}, {1, 1, "c1/x", hops, hops}, {1, 1, "a/../c2/.", hops, hops},
		{1, 1, "root", 1, 14}, {1, 1, "root/a", 2, 2}, {1, 1, "root/..", 1, 1}, {1, 1, "root/root", 1, 14}, {1, 1, "a/up/root/lf", 5, 8},
		{1, 1, "ups", 1, 15}, {1, 1, "ups/a/b", 3, 3}, {1, 1, "ups/ups/ups/f", 5, 5},
		{1, 1, "lds", 2, 16}, {1, 1, "lds/b", 3, 3}, {1, 1, "lds//b", 3, 3}, {1, 1, "lfs", notDir, 17}, {1, 1, "lfs/x", notDir, notDir},
		{1, 2, "up", 1, 18}, {1, 2, "up/f", 5, 5}, {2, 2, "up", 2, 18}, {2, 2, "up/f", 6, 6}, {2, 2, "up/up/up/b", 3, 3},
		{1, 2, "abs", 3, 19}, {2, 2, "abs", none, 19}, {2, 3, "../abs", none, 19}, {1, 1, "ld/abs/c", 4, 4},
		{1, 3, "mid", 4, 20}, {1, 3, "mid/..", 3, 3}, {2, 3, "mid", none, 20}, {3, 3, "mid", none, 20},
		{1, 1, "lld", 2, 21}, {1, 1, "lld/f", 6, 6}, {1, 1, "lld/lld", none, none}, {1, 1, "lld/../lld", 2, 21},
		{1, 3, "llf", 5, 22}, {2, 3, "llf", none, 22}, {1, 3, "llf/", notDir, notDir},
		{1, 1, "dot", 1, 23}, {1, 1, "dot/dot/dot/f", 5, 5}, {1, 1, "many", 3, 24}, {1, 1, "many/f", 7, 7},
		{1, 1, "slashes", 2, 28}, {1, 1, "slashes/f", 6, 6},
		{1, 4, "up", 1, 29}, {2, 4, "up", 2, 29}, {3, 4, "up", 3, 29}, {4, 4, "up", 4, 29}, {1, 1, "lups", 1, 30}, {1, 1, "lups/f", 5, 5},
		{1, 1, "long", 2, 33}, {1, 1, "long/b", 3, 3},
		// A link of two names leads elsewhere from where its other name lies.
		{1, 1, "a/h", none, 9}, {1, 1, "a/h/b", none, none},
	} {
		if got := followed(t, f, x.top, x.dir, x.name, true); got != x.on {
			t.Errorf("Follow(%d, %d, %q, true): %d, not %d", x.top, x.dir, x.name, got, x.on)
		}
		if got := followed(t, f, x.top, x.dir, x.name, false); got != x.not {
			t.Errorf("Follow(%d, %d, %q, false): %d, not %d", x.top, x.dir, x.name, got, x.not)
		}
	}
}

// chain has links 1, 2, .. so many, each to the one below it, and 0, a directory.
func chain(t *testing.T, many int) *vfs.FS {
	lines := []string{"0/", "0/f"}
	for i := range many {
		lines = append(lines, fmt.Sprintf("%d -> %d", i+1, i))
	}
	return grown(t, lines...)
}

// P11.4, P11.10: 40 hops are done, and 41 are not: in a row, and in all.
func TestHops(t *testing.T) {
	f := chain(t, 45)
	h, m := held{t, f}, modelOf(f)
	link := func(i int) int { return i + 3 }
	try := func(name string, on, not int) {
		t.Helper()
		for _, last := range []bool{true, false} {
			n, why := h.follow(m, 1, 1, name, last)
			want := on
			if !last {
				want = not
			}
			if why != api.OK {
				n = int(why)
			}
			if n != want {
				t.Errorf("%q, %v: %d, not %d", name, last, n, want)
			}
		}
	}
	for i := 1; i <= 45; i++ {
		at := func(place int) int {
			if i > 40 {
				return hops
			}
			return place
		}
		try(fmt.Sprint(i), at(2), link(i))
		try(fmt.Sprint(i, "/"), at(2), at(2))
		try(fmt.Sprint(i, "/f"), at(3), at(3))
		try(fmt.Sprint(i, "/../0/f"), at(3), at(3))
		try(fmt.Sprint(i, "/f/"), at(notDir), at(notDir))
		try(fmt.Sprint(i, "/x"), at(none), at(none))
		try(strings.Repeat("1/../", i), at(1), at(1))
	}
}

// P11.4: the last piece without last is no hop, so that a name whose 41st link it is is done.
func TestHopsWithoutLast(t *testing.T) {
	f := chain(t, 45)
	for _, x := range []struct {
		ahead int // hops ahead of the last piece
		piece string
		last  bool
		want  int
	}{
		{39, "1", true, 2}, {40, "1", true, hops}, {40, "1", false, 4}, {40, "45", false, 48}, {41, "1", false, hops},
		{40, "0", true, 2}, {40, "x", true, none}, {40, ".", true, 1}, {38, "2", true, 2}, {39, "2", true, hops}, {1, "39", true, 2}, {1, "40", true, hops},
	} {
		if got := followed(t, f, 1, 1, strings.Repeat("1/../", x.ahead)+x.piece, x.last); got != x.want {
			t.Errorf("%d ahead of %s, %v: %d, not %d", x.ahead, x.piece, x.last, got, x.want)
		}
	}
}

// P11.10: links that double what is ahead, and long ones that come to one another, end at the 41st hop.
func TestFollowEnds(t *testing.T) {
	lines := []string{"0/", "x -> " + strings.Repeat("x/", 2047) + "x", "y -> z/y", "z -> y/z", "up -> ../up/up"}
	for i := range 30 { // each leads twice through the one below it: 2^30 hops, were they not counted
		lines = append(lines, fmt.Sprintf("%d -> %d/../%d", i+1, i, i))
	}
	f := grown(t, lines...)
	for _, x := range []struct {
		name string
		want int
	}{
		{"x", hops}, {"y", hops}, {"z", hops}, {"up", hops}, {"30", hops}, {"6", hops}, {"5", 2}, {"4/../3", 2}, {"4/../4", 2}, {"5/../3", 2}, {"5/../4", hops},
	} {
		if got := followed(t, f, 1, 1, x.name, true); got != x.want {
			t.Errorf("%q: %d, not %d", x.name, got, x.want)
		}
	}
	long := strings.Repeat("/./0/..//", 1<<16)
	if n, why := walk.Follow(f, 1, 1, long+"0", true); n != 2 || why != api.OK {
		t.Error(n, why)
	}
}
