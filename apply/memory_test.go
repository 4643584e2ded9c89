package apply_test

import (
	"slices"
	"testing"

	"satchel/api"
	"satchel/apply"
)

// Memory: the data that are handed in are not changed, nor the room behind them; nor are they kept.
func TestMemoryOfData(t *testing.T) {
	for _, e := range []api.Entry{file("x", 4), file("f", 4), file("m/n/x", 4), file("d", 4), file("s/x", 4), file("..", 4), directory("x"), symlink("x", "y"), hard("x", "f")} {
		for _, there := range ways {
			with := []byte("dataspare")
			h := held{t, example(t)}
			h.apply(1, e, with[:4], api.Policy{There: there, Parents: true})
			apply.Check(e, with[:4], api.Policy{There: there})
			if string(with) != "dataspare" {
				t.Errorf("%+v: %q", e, with)
			}
			h.unchanged("data that are others now", func() { copy(with, "SPOILTALL") })
		}
	}
}

// Memory: the list that is handed in is not changed, and what All answers is new and its holder's alone.
func TestMemoryOfAll(t *testing.T) {
	data := []byte("abcspare")
	list := []api.Packed{{Entry: directory("a")}, {Entry: file("a/f", 3), Data: data[:3]}, {Entry: hard("g", "a/f")}, {Entry: file("..", 0)}, {Entry: file("spare", 0)}}
	was := slices.Clone(list)
	h := held{t, example(t)}
	g := h.f.Clone()
	done, why := apply.All(h.f, 1, list[:3:5], api.Policy{})
	if why != api.OK || string(data) != "abcspare" || brief(list) != brief(was) {
		t.Fatal(why, list)
	}
	h.unchanged("the answer and the list spoilt", func() {
		for i := range done[:cap(done)] {
			done[:cap(done)][i] = api.Done{Node: 77}
		}
		copy(data, "SPOILTALL")
		clear(list)
	})
	copy(data, "abcspare")
	for range 2 { // the same again, of another file system in the same state
		f := g.Clone()
		again, why := apply.All(f, 1, was[:4], api.Policy{})
		want := []api.Done{{Node: 5}, {Node: 6}, {Node: 6}}
		if !slices.Equal(again, want) || why != api.ErrDots || !sameImage(f.Image(), h.f.Image()) {
			t.Error(again, why)
		}
		again = append(again, api.Done{Node: 77})
	}
}

// From arguments alone: the same on a clone, on a file system of the image, and again; whatever was done on another one in between.
func TestFromArgumentsAlone(t *testing.T) {
	entries := []api.Entry{file("n/x", 4), directory("d"), symlink("s", "d"), hard("h", "f"), file("s/x", 4), file("f", 4)}
	for _, e := range entries {
		p := api.Policy{There: api.Replace, Parents: true}
		f := example(t)
		clone := f.Clone()
		g := room(t, f, 9, 99).f
		want, why := apply.Apply(f, 1, e, []byte("data"), p)
		for _, other := range entries {
			apply.Apply(example(t), 1, other, []byte("more"), api.Policy{There: api.Skip})
		}
		for i, x := range []held{{t, clone}, {t, g}} {
			if got, e2 := x.apply(1, e, []byte("data"), p); got != want || e2 != why {
				t.Errorf("%d: %+v: %+v %d, not %+v %d", i, e, got, e2, want, why)
			}
		}
	}
}
