package pax_test

import (
	"math/rand"
	"slices"
	"strings"
	"testing"

	"satchel/api"
	"satchel/pax"
)

// pairs are pairs as short texts say them: a key and a value, one byte or none, each behind a blank.
func pairs(text string) []api.Pair {
	var l []api.Pair
	for _, s := range strings.Fields(text) {
		l = append(l, api.Pair{Key: s[:1], Value: s[1:]})
	}
	return l
}

// P14.3: of each key the last pair of below and then above, if its value is not empty.
func TestMerge(t *testing.T) {
	for _, x := range [][3]string{
		{"", "", ""},
		{"a1 b2", "b c3", "a1 c3"},
		{"b2 a1", "", "a1 b2"},
		{"", "b2 a1", "a1 b2"},
		{"a1", "a2", "a2"},
		{"a2", "a1", "a1"},
		{"a1 a2 a3", "", "a3"},
		{"", "a1 a2 a3", "a3"},
		{"a1 a2", "a3 a4", "a4"},
		{"a1 b1 a2 b2", "b3", "a2 b3"},
		{"a", "", ""},
		{"", "a", ""},
		{"a1 a", "", ""},
		{"a a1", "", "a1"},
		{"a", "a1", "a1"},
		{"a1", "a", ""},
		{"a1", "a2 a", ""},
		{"a1", "a a2", "a2"},
		{"a1 b1 c1", "a b c", ""},
		{"a b c", "a1 b1 c1", "a1 b1 c1"},
		{"c1 b1 a1", "f1 e1 d1", "a1 b1 c1 d1 e1 f1"},
		{"c1 e1 a1", "f1 b1 d1", "a1 b1 c1 d1 e1 f1"},
	} {
		if l := heldMerge(t, pairs(x[0]), pairs(x[1])); !slices.Equal(l, pairs(x[2])) {
			t.Errorf("Merge(%s, %s): %q, not %s", x[0], x[1], l, x[2])
		}
	}
}

// P14.3: the order is that of the keys' bytes, whatever they are: keys that no record can have too.
func TestMergeOrder(t *testing.T) {
	order := []string{"", "\x00", "\x00\x00", "\n", "A", "Z", "a", "a\x00", "a\x00b", "a\x01", "a.", "a=", "aA", "aa", "aaa", "ab", "b", "\x7f", "\x80", "é", "é\x00", "\xff", "\xff\xff"}
	var l []api.Pair
	for _, key := range order {
		l = append(l, api.Pair{Key: key, Value: key + "."})
	}
	r := rand.New(rand.NewSource(143))
	for range 200 {
		mixed := slices.Clone(l)
		r.Shuffle(len(mixed), func(i, j int) { mixed[i], mixed[j] = mixed[j], mixed[i] })
		cut := r.Intn(len(mixed) + 1)
		if got := heldMerge(t, mixed[:cut], mixed[cut:]); !slices.Equal(got, l) {
			t.Fatalf("Merge(%q, %q): %q", mixed[:cut], mixed[cut:], got)
		}
	}
}

// P14.3: the last pair of a key, with an empty value too.
func TestFind(t *testing.T) {
	for _, x := range []struct {
		list, key, value string
		found            bool
	}{
		{"", "a", "", false},
		{"a1", "a", "1", true},
		{"a1", "b", "", false},
		{"a1", "", "", false},
		{"a1", "a1", "", false},
		{"a1 b2 c3", "a", "1", true},
		{"a1 b2 c3", "b", "2", true},
		{"a1 b2 c3", "c", "3", true},
		{"a1 a2 a3", "a", "3", true},
		{"a1 b1 a2 b2", "a", "2", true},
		{"a", "a", "", true},
		{"a1 a", "a", "", true},
		{"a a1", "a", "1", true},
		{"a1 b", "a", "1", true},
	} {
		if value, found := heldFind(t, pairs(x.list), x.key); value != x.value || found != x.found {
			t.Errorf("Find(%s, %s): %q %v", x.list, x.key, value, found)
		}
	}
	if value, found := pax.Find([]api.Pair{{Value: "1"}}, ""); value != "1" || !found {
		t.Error(value, found)
	}
}

// P14.3, P14.7: all lists of up to three pairs of two keys and two values, one of them empty, below and above.
func TestMergeAll(t *testing.T) {
	t.Parallel()
	kinds := []api.Pair{{Key: "a"}, {Key: "a", Value: "1"}, {Key: "b"}, {Key: "b", Value: "1"}, {Key: "b", Value: "2"}}
	var all [][]api.Pair
	for _, text := range allTexts("01234", 3) {
		var l []api.Pair
		for _, c := range text {
			l = append(l, kinds[c-'0'])
		}
		all = append(all, l)
	}
	for _, below := range all {
		for _, above := range all {
			merged := heldMerge(t, below, above)
			for _, key := range []string{"a", "b", "c"} {
				heldFound(t, below, above, merged, key)
			}
		}
	}
}

// heldFound holds Find of a key in what was merged to Find in above, or else in below.
func heldFound(t *testing.T, below, above, merged []api.Pair, key string) {
	t.Helper()
	want, there := heldFind(t, above, key)
	if !there {
		want, _ = heldFind(t, below, key)
	}
	if value, found := heldFind(t, merged, key); value != want || found != (want != "") {
		t.Fatalf("Find(Merge(%q, %q), %q): %q %v", below, above, key, value, found)
	}
}

// some are pairs by chance, of few keys; with empty values, if they may be.
func some(r *rand.Rand, empty bool) []api.Pair {
	var l []api.Pair
	for range r.Intn(7) {
		p := api.Pair{Key: "abcdefgh"[:1+r.Intn(8)], Value: "123"[:1+r.Intn(3)]}
		if empty && r.Intn(3) == 0 {
			p.Value = ""
		}
		l = append(l, p)
	}
	return l
}

// P14.7: three lists merged in either order, where the upper two have no empty value.
func TestMerged(t *testing.T) {
	t.Parallel()
	r := rand.New(rand.NewSource(147))
	met := 0
	for range 20000 {
		a, b, c := some(r, true), some(r, false), some(r, false)
		right := heldMerge(t, a, pax.Merge(b, c))
		left := heldMerge(t, pax.Merge(a, b), c)
		if !slices.Equal(left, right) {
			t.Fatalf("%q, %q, %q: %q and %q", a, b, c, left, right)
		}
		if len(left) < len(a)+len(b)+len(c) {
			met++
		}
		heldFound(t, a, b, pax.Merge(a, b), "abc")
		heldFound(t, c, a, pax.Merge(c, a), "abcd")
	}
	if met < 1000 {
		t.Error(met)
	}
}
