package extract_test

import (
	"math"
	"strings"
	"testing"

	"satchel/api"
)

// tower is an archive of six entries: ten bytes, at most three components.
func tower() (b string, places []int) {
	for _, text := range []string{dir("a", 0o700), file("a/f", "1234"), dir("a/b", 0o500), hard("a/b/h", "a/f"), file("a/b/g", "123456"), symlink("z", "a")} {
		places = append(places, len(b))
		b += text
	}
	return b + end, places
}

// P20.7: quotas just reached, and passed by one.
func TestQuotas(t *testing.T) {
	b, places := tower()
	whole := api.Report{Done: 6, Bytes: 10, Place: len(b) - 1024}
	exact := api.Quota{Bytes: 10, Entries: 6, Depth: 3}
	h := newHeld(t, 9, 99)
	h.comes(b, 1, api.Extraction{Quota: exact}, whole)

	for entries := range 6 {
		q := exact
		q.Entries = entries
		name := []string{"a", "a/f", "a/b", "a/b/h", "a/b/g", "z"}[entries]
		bytes := []int64{0, 0, 4, 4, 4, 10}[entries]
		h := newHeld(t, 9, 99)
		h.comes(b, 1, api.Extraction{Quota: q}, api.Report{Done: entries, Bytes: bytes, Place: places[entries], Name: name, Cause: api.ErrEntries})
	}
	for bytes := range int64(10) {
		q := exact
		q.Bytes = bytes
		want := api.Report{Done: 1, Place: places[1], Name: "a/f", Cause: api.ErrQuota}
		if bytes >= 4 {
			want = api.Report{Done: 4, Bytes: 4, Place: places[4], Name: "a/b/g", Cause: api.ErrQuota}
		}
		h := newHeld(t, 9, 99)
		h.comes(b, 1, api.Extraction{Quota: q}, want)
	}
	for depth, want := range []api.Report{
		{Name: "a", Cause: api.ErrDepth},
		{Done: 1, Place: places[1], Name: "a/f", Cause: api.ErrDepth},
		{Done: 3, Bytes: 4, Place: places[3], Name: "a/b/h", Cause: api.ErrDepth},
		whole,
		whole,
	} {
		q := exact
		q.Depth = depth
		h := newHeld(t, 9, 99)
		h.comes(b, 1, api.Extraction{Quota: q}, want)
	}
	h = newHeld(t, 9, 99)
	h.comes(b, 1, api.Extraction{Quota: api.Quota{Bytes: math.MaxInt64, Entries: math.MaxInt, Depth: math.MaxInt}}, whole)
}

// P20.7: a depth is the components', however the name says them; directories that are made ahead are counted with the name, and not as entries.
func TestDepth(t *testing.T) {
	for name, depth := range map[string]int{"x": 1, "./x": 1, "x//": 1, "a/x": 2, "a/./x": 2, "a/b/c/x": 4} {
		for given := range 6 {
			want := api.Report{Done: 1, Bytes: 1, Place: 1024}
			if given < depth {
				want = api.Report{Name: name, Cause: api.ErrDepth}
			}
			b := made(api.Header{Name: name, Type: '7'}, "x") // with a slash at its end, too, a file
			h := newHeld(t, 9, 9)
			h.comes(b+end, 1, api.Extraction{Policy: api.Policy{Parents: true}, Quota: api.Quota{Bytes: 1, Entries: 1, Depth: given}}, want)
			if given < depth && names(h.f, 1) != "" {
				t.Error(names(h.f, 1))
			}
		}
	}
	// From top on, wherever that lies.
	h := held{t, grown(t, "a/", "a/b/", "a/b/c/")}
	h.comes(file("x", "x")+file("d/x", "x")+end, 4, api.Extraction{Quota: api.Quota{Bytes: 9, Entries: 9, Depth: 1}},
		api.Report{Done: 1, Bytes: 1, Place: 1024, Name: "d/x", Cause: api.ErrDepth})
}

// P20.3: what Take took is not given back: of what is left out, of what was replaced, of what a hard link took.
func TestNotGivenBack(t *testing.T) {
	policy := func(there int, bytes int64, entries int) api.Extraction {
		return api.Extraction{Policy: api.Policy{There: there}, Quota: api.Quota{Bytes: bytes, Entries: entries, Depth: 9}}
	}
	left := file("f", "1234") + file("new", "56") + end // f is there
	for bytes, want := range map[int64]api.Report{
		3: {Name: "f", Cause: api.ErrQuota},
		4: {Skipped: 1, Place: 1024, Name: "new", Cause: api.ErrQuota},
		5: {Skipped: 1, Place: 1024, Name: "new", Cause: api.ErrQuota},
		6: {Done: 1, Skipped: 1, Bytes: 2, Place: 2048},
	} {
		h := held{t, example(t)}
		h.comes(left, 1, policy(api.Skip, bytes, 2), want)
	}
	h := held{t, example(t)}
	h.comes(left, 1, policy(api.Skip, 6, 1), api.Report{Skipped: 1, Place: 1024, Name: "new", Cause: api.ErrEntries})

	again := strings.Repeat(file("new", "12"), 3)
	for bytes, done := range map[int64]int{5: 2, 6: 3} {
		h := held{t, example(t)}
		want := api.Report{Done: done, Bytes: int64(2 * done), Place: 3072}
		if done < 3 {
			want.Place, want.Name, want.Cause = 1024*done, "new", api.ErrQuota
		}
		h.comes(again+end, 1, policy(api.Replace, bytes, 9), want)
	}

	h = held{t, example(t)}
	h.comes(hard("f", "f")+dir("d", 0)+dir("d", 0)+file("x", "")+end, 1, policy(api.Keep, 0, 3),
		api.Report{Done: 3, Place: 1536, Name: "x", Cause: api.ErrEntries})
}

// P20.7: holes count as bytes, and so they do in what is told; bytes of anything that is no file do not.
func TestWhatCounts(t *testing.T) {
	l := []api.Range{{From: 10, To: 12}}
	for _, b := range []string{oldHoles("x", 30, l, "ab"), paxHoles("x", 30, l, "ab")} {
		for bytes := range int64(32) {
			want := api.Report{Done: 1, Bytes: 30, Place: len(b)}
			if bytes < 30 {
				want = api.Report{Name: "x", Cause: api.ErrQuota}
			}
			h := newHeld(t, 9, 99)
			h.comes(b+end, 1, api.Extraction{Quota: api.Quota{Bytes: bytes, Entries: 1, Depth: 1}}, want)
		}
	}
	// A directory of the type 0, with data; a symbolic link whose header has a size.
	b := made(api.Header{Name: "d/", Mode: 0o755, Type: '0'}, "data") + made(api.Header{Name: "s", Type: '2', Link: "d"}, "x")[:512]
	h := newHeld(t, 9, 99)
	h.comes(b+end, 1, api.Extraction{Quota: api.Quota{Entries: 2, Depth: 1}}, api.Report{Done: 2, Place: 1536})
	if names(h.f, 1) != " d/ s" {
		t.Error(names(h.f, 1))
	}
}

// P20.7: quotas of nothing at all let an archive without entries be.
func TestNoQuota(t *testing.T) {
	h := newHeld(t, 1, 0)
	h.comes(end, 1, api.Extraction{}, api.Report{})
	h.comes(pairs('g', "uid", "5")+end, 1, api.Extraction{}, api.Report{Place: 1024})
	h.comes(dir("d", 0)+end, 1, api.Extraction{}, api.Report{Name: "d", Cause: api.ErrEntries})
	h.comes("x", 1, api.Extraction{}, api.Report{Place: 1, Cause: api.ErrShort})
}
