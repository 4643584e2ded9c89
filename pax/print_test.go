package pax_test

import (
	"bytes"
	"math/rand"
	"slices"
	"strings"
	"testing"

	"satchel/api"
	"satchel/pax"
)

// P14.2: the records of pairs, one behind the other.
func TestPrint(t *testing.T) {
	for want, l := range map[string][]api.Pair{
		"":                            nil,
		"9 path=a\n":                  {{Key: "path", Value: "a"}},
		"5 a=\n":                      {{Key: "a"}},
		"9 a=b=c=\n":                  {{Key: "a", Value: "b=c="}},
		"6 \n=\n\n":                   {{Key: "\n", Value: "\n"}},
		"6 b=1\n6 a=2\n6 b=3\n":       {{Key: "b", Value: "1"}, {Key: "a", Value: "2"}, {Key: "b", Value: "3"}},
		"11 path=ab\n8 a=\xff\xfe \n": {{Key: "path", Value: "ab"}, {Key: "a", Value: "\xff\xfe "}},
	} {
		if b, why := heldPrint(t, l); string(b) != want || why != api.OK {
			t.Errorf("Print(%q): %q %d, not %q", l, b, why, want)
		}
	}
}

// P14.2: keys and values that can't be, at the first place and at a later one.
func TestPrintKeys(t *testing.T) {
	good := []api.Pair{{Key: "a", Value: "b"}, {Key: "b"}}
	for _, p := range []api.Pair{
		{}, {Value: "a"}, {Key: "=", Value: "a"}, {Key: "=a"}, {Key: "a="}, {Key: "a=b", Value: "c"},
		{Key: "\x00", Value: "a"}, {Key: "\x00a"}, {Key: "a\x00"}, {Key: "a", Value: "\x00"}, {Key: "a", Value: "\x00a"}, {Key: "a", Value: "a\x00"},
	} {
		for _, l := range [][]api.Pair{{p}, {p, good[0]}, {good[0], p}, {good[0], p, good[1]}, {good[0], good[1], p}} {
			if b, why := heldPrint(t, l); len(b) != 0 || why != api.ErrKey {
				t.Errorf("Print(%q): %q %d", l, b, why)
			}
		}
	}
}

// P14.2: the least length that is right, of all pairs up to four digits and around the lengths where a digit more is needed.
func TestPrintLengths(t *testing.T) {
	held := func(body int) int {
		p := api.Pair{Key: "key", Value: strings.Repeat("v", body-3)}
		b, why := heldPrint(t, []api.Pair{p})
		if l, at, wrong := pax.Parse(b); why != api.OK || len(l) != 1 || l[0] != p || at != 0 || wrong != api.OK {
			t.Fatalf("%d: %d, %d pairs, %d %d", body, why, len(l), at, wrong)
		}
		return len(b)
	}
	for body := 3; body < 1100; body++ {
		held(body)
	}
	for digits := 1; digits <= 6; digits++ {
		last := pow10(digits) - 1 - digits - 3 // of which the length has so many digits
		if n := held(last); n != pow10(digits)-1 {
			t.Errorf("%d bytes: %d", last, n)
		}
		if n := held(last + 1); n != pow10(digits)+1 {
			t.Errorf("%d bytes: %d", last+1, n)
		}
	}
}

// P14.2: a length of more than seven digits is refused, and a key that can't be ahead of it.
func TestPrintLong(t *testing.T) {
	most := api.Pair{Key: "k", Value: strings.Repeat("v", 9999999-7-4)}
	if b, why := heldPrint(t, []api.Pair{most}); len(b) != 9999999 || why != api.OK || !bytes.HasPrefix(b, []byte("9999999 k=vv")) {
		t.Error(len(b), why)
	}
	for _, long := range []api.Pair{{Key: "k", Value: most.Value + "v"}, {Key: "kk", Value: most.Value}, {Key: most.Value + "vv"}} {
		small := api.Pair{Key: "a", Value: "b"}
		for _, l := range [][]api.Pair{{long}, {long, small}, {small, long}, {small, long, small}} {
			if b, why := pax.Print(l); len(b) != 0 || why != api.ErrLong {
				t.Error(len(b), why)
			}
		}
		wrong := api.Pair{Key: "a=b"}
		for _, l := range [][]api.Pair{{long, wrong}, {wrong, long}, {small, long, small, wrong}} {
			if b, why := pax.Print(l); len(b) != 0 || why != api.ErrKey {
				t.Error(len(b), why)
			}
		}
		long.Value += "\x00"
		if b, why := pax.Print([]api.Pair{long}); len(b) != 0 || why != api.ErrKey {
			t.Error(len(b), why)
		}
	}
}

// P14.2, P14.6: pairs by chance: Parse of what Print makes is the pairs.
func TestBack(t *testing.T) {
	t.Parallel()
	r := rand.New(rand.NewSource(142))
	seen := map[api.Errno]int{}
	for range 20000 {
		var l []api.Pair
		for range r.Intn(6) {
			l = append(l, chance(r, 1+r.Intn(120), r.Intn(20) == 0))
		}
		b, why := heldPrint(t, l)
		seen[why]++
		if why != api.OK {
			continue
		}
		if again, wrong := heldParse(t, b); wrong != api.OK || !slices.Equal(again, l) {
			t.Fatalf("Parse(Print(%q)): %q %d", l, again, wrong)
		}
	}
	if seen[api.OK] < 1000 || seen[api.ErrKey] < 1000 {
		t.Error(seen)
	}
}

// P14.6: Print of what Parse reads is the bytes, but where a record has the greater of two lengths.
func TestBackBytes(t *testing.T) {
	t.Parallel()
	r := rand.New(rand.NewSource(146))
	kept, shorter := 0, 0
	for range 20000 {
		var b []byte
		least := true
		for range 1 + r.Intn(3) {
			body := []int{5, 6, 93, 94, 95, r.Intn(200) + 2}[r.Intn(6)]
			key := 1 + r.Intn(body-1)
			p := api.Pair{Key: strings.Repeat("k", key), Value: strings.Repeat("=", body-key)}
			var texts []string
			for digits := 1; digits <= 4; digits++ {
				if text := record(p, digits); text != "" {
					texts = append(texts, text)
				}
			}
			i := r.Intn(len(texts))
			least = least && i == 0
			b = append(b, texts[i]...)
		}
		l, at, why := pax.Parse(b)
		if at != 0 || why != api.OK {
			t.Fatalf("Parse(%q): %d %d", b, at, why)
		}
		again, why := pax.Print(l)
		if why != api.OK || bytes.Equal(again, b) != least || len(again) > len(b) {
			t.Fatalf("Print(Parse(%q)): %q %d", b, again, why)
		}
		if least {
			kept++
		} else {
			shorter++
		}
	}
	if kept < 1000 || shorter < 1000 {
		t.Error(kept, shorter)
	}
}
