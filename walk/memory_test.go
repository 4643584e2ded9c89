package walk_test

import (
	"slices"
	"testing"

	"satchel/api"
	"satchel/walk"
)

// spare is parts with room behind them, and whether they and the room are as they were.
func spare(parts ...string) ([]string, func() bool) {
	with := append(slices.Clone(parts), "spare", "spare", "spare")
	return with[:len(parts)], func() bool {
		return slices.Equal(with, append(slices.Clone(parts), "spare", "spare", "spare"))
	}
}

// Memory: parts that are handed in are not changed, nor the room behind them; nor are they kept.
func TestMemoryOfParts(t *testing.T) {
	h := held{t, some(t)}
	for _, list := range [][]string{{}, {"a"}, {"a", "b"}, {"x", "y"}, {"a", "x", ".."}, {"s", "x"}, {"f"}} {
		parts, same := spare(list...)
		walk.Find(h.f, 1, parts)
		if !same() {
			t.Errorf("Find of %q changed them", list)
		}
		walk.Make(h.f, 1, parts, api.Meta{})
		if !same() {
			t.Errorf("Make of %q changed them", list)
		}
		h.unchanged("others in their place", func() {
			for i := range parts {
				parts[i] = "spoilt"
			}
		})
	}
}

// Memory: what All, Reach and Names answer is new, and no list of it shares with another.
func TestMemoryOfAnswers(t *testing.T) {
	h := held{t, full(t)}
	m := modelOf(h.f)
	all := walk.All(h.f, 1)
	reach := walk.Reach(h.f, 1)
	names := walk.Names(h.f, 1, 11)
	h.unchanged("the answers spoilt", func() {
		for i, x := range all[:cap(all)] {
			if i < len(all) && !slices.Equal(x.Parts, m.all(1)[i].Parts) {
				t.Fatalf("%d is changed with one ahead of it: %q", i, x.Parts)
			}
			spoil(x.Parts, "spoilt")
		}
		spoil(all, api.Found{})
		spoil(reach, 77)
		for i, x := range names {
			if !slices.Equal(x, m.names(1, 11)[i]) {
				t.Fatalf("%d is changed with one ahead of it: %q", i, x)
			}
			spoil(x, "spoilt")
		}
		spoil(names, nil)
		h.trees(m, 1)
	})
}

// spoil writes over a list, its room included.
func spoil[T any](list []T, with T) {
	list = list[:cap(list)]
	for i := range list {
		list[i] = with
	}
}
