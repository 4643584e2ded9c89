package index_test

import (
	"fmt"
	"slices"
	"strings"
	"testing"

	"satchel/api"
	"satchel/path"
)

// P23.2, P23.8: names in other forms, and those that Clean refuses, of entries and asked for.
func TestFind(t *testing.T) {
	forms := []string{"a/b", "a//b", "./a/b", "a/./b/.", "a/b/", ".//a///b//./"}
	for _, form := range forms {
		h := opened(t, []byte(named(form, api.Header{Type: '0'}, "x")+file("c", "")+end))
		for _, name := range forms {
			if i, there := h.find(name); i != 0 || !there {
				t.Errorf("%q: %d %t", name, i, there)
			}
		}
		for _, name := range []string{"", ".", "/", "/a/b", "a/b/..", "../a/b", "a/../a/b", "a", "b", "a/b/c", "a/B", "a/b ", "a/b\x00", "\x00", strings.Repeat("a", 256), strings.Repeat("a/", 256) + "b", strings.Repeat("a", 5000)} {
			if i, there := h.find(name); i != 0 || there {
				t.Errorf("%q: %d %t", name, i, there)
			}
		}
	}
	// What Clean refuses is never found, also if it is just the same text.
	for _, name := range []string{"/", ".", "/a", "..", "a/../b", "../a", "./", strings.Repeat("n", 256), strings.Repeat("d/", 257), strings.Repeat("long/", 820)} {
		h := opened(t, []byte(named(name, api.Header{Type: '0'}, "x")+named(name, api.Header{Type: '5'}, "")+end))
		if i, there := h.find(name); i != 0 || there {
			t.Errorf("%q: %d %t", name, i, there)
		}
		if l := h.under(""); len(l) > 0 {
			t.Errorf("%q: %v", name, l)
		}
		if l := h.under(name); len(l) > 0 {
			t.Errorf("%q: %v", name, l)
		}
	}
}

// P23.2, P23.8: of several entries of one name the last one, whatever kinds and forms they have.
func TestFindLast(t *testing.T) {
	entries := []string{file("a", "1"), dir("a/"), file("b", ""), symlink("a", "b"), file("./a", "2"), hard("a", "b"), named("../a", api.Header{Type: '0'}, ""), device("a//"), file("c", "")}
	last := []int{0, 1, 1, 3, 4, 5, 5, 7, 7}
	for n := range entries {
		h := opened(t, []byte(strings.Join(entries[:n+1], "")+end))
		if i, there := h.find("a"); i != last[n] || !there {
			t.Errorf("%d: %d %t", n, i, there)
		}
	}
	// Numbers beyond a few, of one name and of many.
	var b strings.Builder
	for i := range 300 {
		b.WriteString(file([]string{"same", fmt.Sprint(i)}[i%2], ""))
	}
	h := opened(t, []byte(b.String()+end))
	if i, _ := h.find("same"); i != 298 {
		t.Error(i)
	}
	if i, _ := h.find("17"); i != 17 {
		t.Error(i)
	}
}

// P23.2, P23.8: what is under a name is under each name above it, and under the empty text.
func TestUnder(t *testing.T) {
	b := dir("a") + file("a/f", "") + file("a.b", "") + file("ab/f", "") + dir("a/d/") + file("a//d/./g", "") + named("/a/x", api.Header{Type: '0'}, "") +
		named("a/../x", api.Header{Type: '0'}, "") + file("b", "") + file("b/c/d/e", "") + named("", api.Header{Name: "", Type: '0'}, "") + hard("a/h", "b") + symlink("a/d/s", "..") + file("a/f", "again") + end
	h := opened(t, []byte(b))
	for name, want := range map[string]string{
		"":      "[0 1 2 3 4 5 8 9 11 12 13]",
		"a":     "[1 4 5 11 12 13]",
		"./a//": "[1 4 5 11 12 13]",
		"a/d":   "[5 12]",
		"a/d/":  "[5 12]",
		"ab":    "[3]",
		"b":     "[9]",
		"b/c":   "[9]",
		"b/c/d": "[9]",
		"a/f":   "[]", "a/d/g": "[]", "b/c/d/e": "[]", "none": "[]", "a/none": "[]", "A": "[]",
		".": "[]", "/": "[]", "/a": "[]", "..": "[]", "a/..": "[]", "a\x00": "[]", "./": "[]",
	} {
		if got := fmt.Sprint(h.under(name)); got != want {
			t.Errorf("%q: %s, not %s", name, got, want)
		}
	}
	h.above()
}

// above is P23.8: what is under a name is under those above it.
func (h held) above() {
	h.t.Helper()
	all := h.under("")
	for i, x := range h.items {
		parts, why := path.Split(x.Entry.Name)
		if why != api.OK {
			continue
		}
		for n := range len(parts) + 1 {
			l := h.under(strings.Join(parts[:n], "/"))
			if slices.Contains(l, i) != (n < len(parts)) || !slices.IsSorted(l) {
				h.t.Fatalf("%v under %q: %v", parts, parts[:n], l)
			}
			for _, j := range l {
				if !slices.Contains(all, j) {
					h.t.Fatalf("%d is under %q and nowhere else", j, parts[:n])
				}
			}
			all = l
		}
		all = h.under("")
	}
}

// P23.3: each kind; hard links in a row, to themselves, to what stands behind alone, to several; numbers out of range.
func TestFollow(t *testing.T) {
	for _, x := range []struct {
		b    string
		i    int
		want int
		why  api.Errno
	}{
		{"", 0, 0, api.ErrItem}, {file("f", ""), 1, 0, api.ErrItem}, {file("f", ""), -1, 0, api.ErrItem}, {hard("h", "f"), -1, 0, api.ErrItem},
		{file("f", ""), 0, 0, api.OK}, {dir("f"), 0, 0, api.ErrLink}, {symlink("f", "x"), 0, 0, api.ErrLink}, {device("f"), 0, 0, api.ErrLink},
		{oldHoles("f", 9, nil, ""), 0, 0, api.OK}, {paxHoles("f", 9, nil, ""), 0, 0, api.OK}, {made(api.Header{Name: "f", Type: '7'}, "x"), 0, 0, api.OK},
		{file("x", "") + file("f", "") + hard("h", "f"), 2, 1, api.OK},
		{dir("f") + hard("h", "f"), 1, 0, api.ErrLink}, {symlink("f", "g") + hard("h", "f"), 1, 0, api.ErrLink}, {device("f") + hard("h", "f"), 1, 0, api.ErrLink},
		{file("g", "") + symlink("f", "g") + hard("h", "f"), 2, 0, api.ErrLink},
		{hard("h", "h"), 0, 0, api.ErrItem}, {hard("h", "h") + hard("h", "h"), 1, 0, api.ErrItem}, {file("h", "") + hard("h", "h"), 1, 0, api.OK},
		{hard("h", "f") + file("f", ""), 0, 0, api.ErrItem}, {hard("h", "g") + hard("g", "h"), 0, 0, api.ErrItem}, {hard("h", "g") + hard("g", "h"), 1, 0, api.ErrItem},
		{file("f", "") + hard("g", "f") + hard("h", "g") + hard("i", "h"), 3, 0, api.OK},
		{dir("f") + hard("g", "f") + hard("h", "g") + hard("i", "h"), 3, 0, api.ErrLink},
		{hard("g", "f") + hard("h", "g") + hard("i", "h"), 2, 0, api.ErrItem},
		{file("f", "1") + file("f", "2") + hard("h", "f") + file("f", "3"), 2, 1, api.OK},
		{file("f", "1") + dir("f") + hard("h", "f"), 2, 0, api.ErrLink}, {dir("f") + file("f", "1") + hard("h", "f") + dir("f"), 2, 1, api.OK},
		{file("f", "1") + hard("g", "f") + file("f", "2") + hard("h", "g"), 3, 0, api.OK}, // what g means is told by what is ahead of g
		{file("f", "1") + hard("f", "f") + hard("f", "f") + hard("h", "f"), 3, 0, api.OK},
		{file("./f", "") + hard("h", "f//."), 1, 0, api.OK}, {file("./f/", "") + hard("h", "f//."), 1, 0, api.ErrLink}, {made(api.Header{Name: "./f/", Type: '7'}, "") + hard("h", "f//."), 1, 0, api.OK},
		{named("/f", api.Header{Type: '0'}, "") + hard("h", "/f"), 1, 0, api.ErrItem}, {named("..", api.Header{Type: '0'}, "") + hard("h", ".."), 1, 0, api.ErrItem},
		{file("f", "") + hard("h", "a/../f"), 1, 0, api.ErrItem}, {file("f", "") + hard("h", ""), 1, 0, api.ErrItem}, {file("f", "") + hard("h", "."), 1, 0, api.ErrItem},
		{dir("d") + file("d/f", "") + hard("h", "d"), 2, 0, api.ErrLink},
		{file("f", "") + named("/h", api.Header{Type: '1', Link: "f"}, ""), 1, 0, api.OK},
	} {
		if j, why := opened(t, []byte(x.b+end)).follow(x.i); j != x.want || why != x.why {
			t.Errorf("%s, %d: %d %d, not %d %d", sketch([]byte(x.b)), x.i, j, why, x.want, x.why)
		}
	}
}

// P23.3, P23.4: very many hard links in a row, each to the one ahead, are no more than a long way.
func TestFollowFar(t *testing.T) {
	t.Parallel()
	const n = 20000
	var b strings.Builder
	b.WriteString(file("0", "far"))
	for i := 1; i < n; i++ {
		b.WriteString(hard(fmt.Sprint(i), fmt.Sprint(i-1)))
	}
	b.WriteString(end)
	x, _, why := makeOf(b.String())
	if why != api.OK {
		t.Fatal(why)
	}
	if j, why := x.Follow(n - 1); j != 0 || why != api.OK {
		t.Error(j, why)
	}
	if data, why := x.Data([]byte(b.String()), n-1); string(data) != "far" || why != api.OK {
		t.Error(data, why)
	}
}

// P23.2, P23.3: all archives of up to four entries of few sorts.
func TestFollowAll(t *testing.T) {
	t.Parallel()
	sorts := []string{file("f", "1"), file("./g", "2"), dir("f/"), hard("f", "g"), hard("g", "f"), hard("f", "f"), symlink("g", "f")}
	count := make(map[api.Errno]int)
	var deeper func(b string, n int)
	deeper = func(b string, n int) {
		h := opened(t, []byte(b))
		for i := range h.items {
			_, why := h.follow(i)
			count[why]++
		}
		if n == 0 {
			return
		}
		for _, s := range sorts {
			deeper(b+s, n-1)
		}
	}
	deeper("", 4)
	if count[api.OK] < 1000 || count[api.ErrItem] < 1000 || count[api.ErrLink] < 1000 {
		t.Error(count)
	}
}
