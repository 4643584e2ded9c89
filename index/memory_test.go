package index_test

import (
	"bytes"
	"slices"
	"testing"

	"satchel/api"
	"satchel/index"
)

// spoil turns all bytes of a list, its spare room too.
func spoil(b []byte) {
	b = b[:cap(b)]
	for i := range b {
		b[i] = '#'
	}
}

// Memory: the bytes that Make was handed are not kept: what becomes of them changes nothing.
func TestMemoryOfMake(t *testing.T) {
	b := append([]byte(motley()), "spare"...)
	x, _, _ := index.Make(b[:len(motley())])
	spoil(b)
	h := opened(t, []byte(motley()))
	h.x = x
	h.all()
}

// Memory: what Item tells is its holder's alone, its map and its pairs too.
func TestMemoryOfItems(t *testing.T) {
	h := opened(t, []byte(motley()))
	var told []api.Item
	for range 2 {
		for i := range h.items {
			x, _ := h.item(i)
			told = append(told, x)
		}
	}
	for i, x := range told[:len(h.items)] {
		ranges, pairs := x.Map[:cap(x.Map)], x.Pairs[:cap(x.Pairs)]
		for j := range ranges {
			ranges[j] = api.Range{From: -1, To: -2}
		}
		for j := range pairs {
			pairs[j] = api.Pair{Key: "spoilt"}
		}
		if !sameItem(told[len(h.items)+i], h.items[i]) {
			t.Fatalf("%d: told twice, and one", i)
		}
		h.all()
	}
}

// Memory: the numbers that Under tells, and the bytes that Data tells, are their holder's alone.
func TestMemoryOfAnswers(t *testing.T) {
	h := opened(t, []byte(motley()))
	for _, name := range []string{"", "a", "a/d", "none"} {
		l, other := h.under(name), h.under(name)
		was := slices.Clone(other)
		for i := range l[:cap(l)] {
			l[:cap(l)][i] = -7
		}
		if !slices.Equal(other, was) {
			t.Error(name)
		}
		h.under(name)
	}
	for i := range h.items {
		b := append(slices.Clone(h.was), "spare"...)
		data, why := h.x.Data(b[:len(h.was)], i)
		other, _ := h.x.Data(b[:len(h.was)], i)
		was := slices.Clone(other)
		spoil(data)
		if !bytes.Equal(other, was) || !bytes.Equal(b, append(slices.Clone(h.was), "spare"...)) {
			t.Error(i, why)
		}
		spoil(b)
		if !bytes.Equal(other, was) {
			t.Error(i, why)
		}
	}
	h.all()
}

// From arguments alone: two indexes know nothing of one another, and what was asked in between plays no part.
func TestFromArgumentsAlone(t *testing.T) {
	first, other := opened(t, []byte(motley())), opened(t, []byte(example()))
	for range 2 {
		second := opened(t, []byte(motley()))
		first.all()
		other.all()
		other.data(first.was, 1)
		first.data(other.was, 1)
		second.all()
	}
}

// An index that no Make made ends each of its calls without a panic.
func TestZero(t *testing.T) {
	var x index.Index
	x.Len()
	x.Find("a")
	x.Under("")
	for _, i := range []int{-1, 0, 1} {
		x.Item(i)
		x.Follow(i)
		x.Same(nil, i)
		x.Data([]byte(example()), i)
		x.Line(i)
	}
}

// Nil and empty bytes are alike.
func TestNil(t *testing.T) {
	for _, b := range [][]byte{nil, {}, []byte("spare")[:0]} {
		x, at, why := index.Make(b)
		if x == nil || at != 0 || why != api.OK || x.Len() != 0 {
			t.Error(at, why)
		}
		h := opened(t, []byte(example()))
		for i := range h.items {
			if h.same(b, i) {
				t.Error(i)
			}
			h.data(b, i)
		}
	}
}
