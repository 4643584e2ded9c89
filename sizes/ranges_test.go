package sizes_test

import (
	"math"
	"math/bits"
	"slices"
	"testing"

	"satchel/api"
	"satchel/sizes"
)

func span(from, to int64) api.Range { return api.Range{From: from, To: to} }

func wantRanges(t *testing.T, what string, got []api.Range, want ...api.Range) {
	t.Helper()
	if !slices.Equal(got, want) {
		t.Errorf("%s: %v; want %v", what, got, want)
	}
}

func mustAdd(t *testing.T, r *sizes.Ranges, xs ...api.Range) {
	t.Helper()
	for _, x := range xs {
		if why := r.Add(x); why != api.OK {
			t.Fatalf("Add(%v): %d", x, why)
		}
	}
}

func mustCut(t *testing.T, r *sizes.Ranges, xs ...api.Range) {
	t.Helper()
	for _, x := range xs {
		if why := r.Cut(x); why != api.OK {
			t.Fatalf("Cut(%v): %d", x, why)
		}
	}
}

// P1.4, P1.5: the chapter's example.
func TestRangesWrittenOut(t *testing.T) {
	var r sizes.Ranges
	mustAdd(t, &r, span(5, 10), span(10, 12))
	wantRanges(t, "joined", r.All(), span(5, 12))
	mustCut(t, &r, span(7, 8))
	wantRanges(t, "cut", r.All(), span(5, 7), span(8, 12))
	wantRanges(t, "gaps", r.Gaps(span(0, 20)), span(0, 5), span(7, 8), span(12, 20))
	for x, want := range map[api.Range]bool{span(8, 12): true, span(6, 9): false, span(3, 3): true, span(4, 3): false} {
		if r.Has(x) != want {
			t.Errorf("Has(%v): %t", x, !want)
		}
	}
	if r.Total() != 6 {
		t.Errorf("Total: %d", r.Total())
	}
}

// P1.5: of an empty set.
func TestRangesEmptySet(t *testing.T) {
	var r sizes.Ranges
	mustCut(t, &r, span(0, api.MaxSize))
	wantRanges(t, "all", r.All())
	wantRanges(t, "gaps", r.Gaps(span(3, 9)), span(3, 9))
	wantRanges(t, "gaps of an empty range", r.Gaps(span(3, 3)))
	if r.Total() != 0 || r.Has(span(0, 1)) || !r.Has(span(0, 0)) {
		t.Errorf("an empty set: %d, %t, %t", r.Total(), r.Has(span(0, 1)), r.Has(span(0, 0)))
	}
}

// A set of the places 0 to 6 is a number whose bits tell which of them are in.
const places = 7

func placesOf(x api.Range) uint {
	set := uint(0)
	for p := x.From; p < x.To; p++ {
		set |= 1 << p
	}
	return set
}

func asRanges(set uint) []api.Range {
	var out []api.Range
	for p := range int64(places + 1) {
		if set>>p&1 == 0 {
			continue
		}
		if n := len(out); n > 0 && out[n-1].To == p {
			out[n-1].To++
		} else {
			out = append(out, span(p, p+1))
		}
	}
	return out
}

func makeSet(t *testing.T, set uint) *sizes.Ranges {
	t.Helper()
	var r sizes.Ranges
	mustAdd(t, &r, asRanges(set)...)
	return &r
}

func checkSet(t *testing.T, what string, r *sizes.Ranges, set uint) {
	t.Helper()
	wantRanges(t, what, r.All(), asRanges(set)...)
	if r.Total() != int64(bits.OnesCount(set)) {
		t.Errorf("%s: Total %d of %b", what, r.Total(), set)
	}
}

// P1.4, P1.5: every set of a few places against every range of them, those that can't be among them.
func TestRangesEverySet(t *testing.T) {
	for set := range uint(1 << places) {
		for from := int64(-2); from <= places; from++ {
			for to := int64(-2); to <= places; to++ {
				checkOne(t, set, span(from, to))
			}
		}
	}
}

func checkOne(t *testing.T, set uint, x api.Range) {
	t.Helper()
	can := x.From >= 0 && x.From <= x.To
	why, in := api.ErrRange, uint(0)
	if can {
		why, in = api.OK, placesOf(x)
	}
	added, cut, r := makeSet(t, set), makeSet(t, set), makeSet(t, set)
	if got := added.Add(x); got != why {
		t.Errorf("Add(%v) to %b: %d", x, set, got)
	}
	checkSet(t, "added", added, set|in)
	if got := cut.Cut(x); got != why {
		t.Errorf("Cut(%v) from %b: %d", x, set, got)
	}
	checkSet(t, "cut", cut, set&^in)
	if got := r.Has(x); got != (can && in&^set == 0) {
		t.Errorf("Has(%v) of %b: %t", x, set, got)
	}
	wantRanges(t, "gaps", r.Gaps(x), asRanges(in&^set)...)
	checkSet(t, "looked at", r, set)
}

// P1.4, P1.5: the greatest places, and ranges that can't be beside them.
func TestRangesAtTheEnd(t *testing.T) {
	const end = api.MaxSize
	var r sizes.Ranges
	mustAdd(t, &r, span(end, end))
	wantRanges(t, "empty at the end", r.All())
	mustAdd(t, &r, span(end-1, end), span(0, 1))
	wantRanges(t, "both ends", r.All(), span(0, 1), span(end-1, end))
	wantRanges(t, "between", r.Gaps(span(0, end)), span(1, end-1))
	mustAdd(t, &r, span(1, end-1))
	wantRanges(t, "whole", r.All(), span(0, end))
	if r.Total() != end || !r.Has(span(0, end)) || !r.Has(span(end, end)) {
		t.Errorf("whole: %d, %t, %t", r.Total(), r.Has(span(0, end)), r.Has(span(end, end)))
	}
	for _, x := range []api.Range{span(-1, end), span(-1, -1), span(end, 0), span(end, end-1), span(math.MinInt64, 0), span(math.MinInt64, math.MinInt64), span(0, math.MinInt64)} {
		if a, c := r.Add(x), r.Cut(x); a != api.ErrRange || c != api.ErrRange || r.Has(x) {
			t.Errorf("%v: %d, %d, %t", x, a, c, r.Has(x))
		}
		wantRanges(t, "gaps of none", r.Gaps(x))
	}
	mustCut(t, &r, span(0, end-1))
	wantRanges(t, "cut", r.All(), span(end-1, end))
	mustCut(t, &r, span(end-1, end))
	wantRanges(t, "cut off", r.All())
}

// fullSet has MaxRanges ranges of three places, with two places between: {0, 3}, {5, 8} ..
func fullSet(t *testing.T) *sizes.Ranges {
	t.Helper()
	var r sizes.Ranges
	for i := range int64(api.MaxRanges) {
		mustAdd(t, &r, fullSpan(i))
	}
	return &r
}

func fullSpan(i int64) api.Range { return span(5*i, 5*i+3) }

// P1.4: a set of MaxRanges ranges is allowed; what would make more of them changes nothing.
func TestRangesTooMany(t *testing.T) {
	r := fullSet(t)
	before := r.All()
	if len(before) != api.MaxRanges || r.Total() != 3*api.MaxRanges {
		t.Fatalf("%d ranges, %d places", len(before), r.Total())
	}
	const end = 5 * api.MaxRanges
	for _, x := range []api.Range{span(end-1, end), span(end, end+1), span(api.MaxSize-1, api.MaxSize)} {
		if why := r.Add(x); why != api.ErrLong {
			t.Errorf("Add(%v): %d", x, why)
		}
		wantSame(t, r, before)
	}
	for _, x := range []api.Range{span(1, 2), span(501, 502), span(end-4, end-3)} {
		if why := r.Cut(x); why != api.ErrLong {
			t.Errorf("Cut(%v): %d", x, why)
		}
		wantSame(t, r, before)
	}
}

// P1.4: of a full set, too, ErrRange comes first, and what makes no further range is done.
func TestRangesAllowedWhenFull(t *testing.T) {
	r := fullSet(t)
	before := r.All()
	for _, x := range []api.Range{span(-1, 0), span(3, 2), span(-4, 1<<40)} {
		if a, c := r.Add(x), r.Cut(x); a != api.ErrRange || c != api.ErrRange {
			t.Errorf("%v: %d, %d", x, a, c)
		}
	}
	mustAdd(t, r, span(4, 4), span(0, 3), span(6, 7), span(api.MaxSize, api.MaxSize))
	mustCut(t, r, span(4, 4), span(1, 1), span(3, 5), span(1<<40, api.MaxSize))
	wantSame(t, r, before)

	mustAdd(t, r, span(3, 4), span(9, 10))
	mustCut(t, r, span(0, 1), span(17, 18), span(22, 26))
	wantCount(t, "touched and trimmed", r, api.MaxRanges)
	mustAdd(t, r, span(4, 5))
	wantCount(t, "joined", r, api.MaxRanges-1)
	mustCut(t, r, span(2, 3))
	wantCount(t, "parted", r, api.MaxRanges)
	mustCut(t, r, span(0, 1<<40))
	wantCount(t, "emptied", r, 0)
}

func wantCount(t *testing.T, what string, r *sizes.Ranges, want int) {
	t.Helper()
	if n := len(r.All()); n != want {
		t.Errorf("%s: %d ranges; want %d", what, n, want)
	}
}

func wantSame(t *testing.T, r *sizes.Ranges, want []api.Range) {
	t.Helper()
	if !slices.Equal(r.All(), want) {
		t.Error("the set is not as it was")
	}
}

// P1.4: a range that swallows some and parts of others.
func TestRangesThatSwallow(t *testing.T) {
	var r sizes.Ranges
	mustAdd(t, &r, span(40, 50), span(20, 30), span(0, 10), span(60, 70))
	mustAdd(t, &r, span(25, 60))
	wantRanges(t, "added", r.All(), span(0, 10), span(20, 70))
	mustCut(t, &r, span(5, 22))
	wantRanges(t, "cut", r.All(), span(0, 5), span(22, 70))
	mustCut(t, &r, span(5, 22))
	wantRanges(t, "cut again", r.All(), span(0, 5), span(22, 70))
	mustAdd(t, &r, span(5, 22))
	wantRanges(t, "whole", r.All(), span(0, 70))
}

// P1.5: what is answered is new memory, its spare room too.
func TestRangesAnswersAreNew(t *testing.T) {
	var r sizes.Ranges
	mustAdd(t, &r, span(0, 2), span(4, 6), span(8, 10), span(12, 14), span(16, 18))
	mustCut(t, &r, span(16, 18))
	want := []api.Range{span(0, 2), span(4, 6), span(8, 10), span(12, 14)}
	gaps := []api.Range{span(2, 4), span(6, 8), span(10, 12), span(14, 20)}
	for range 2 {
		all, holes := r.All(), r.Gaps(span(0, 20))
		wantRanges(t, "all", all, want...)
		wantRanges(t, "gaps", holes, gaps...)
		spoil(all)
		wantRanges(t, "gaps behind all", holes, gaps...)
		spoil(holes)
	}
	mustAdd(t, &r, span(20, 22))
	wantRanges(t, "in the end", r.All(), append(want, span(20, 22))...)
}

func spoil(list []api.Range) {
	list = list[:cap(list)]
	for i := range list {
		list[i] = span(-7, -9)
	}
}

// P1.7: the places of a set, put in and taken out in every order, come to one and the same set.
func TestRangesHangOnThePlacesAlone(t *testing.T) {
	steps := []api.Range{span(0, 3), span(3, 5), span(7, 9), span(4, 8), span(12, 13)}
	var one sizes.Ranges
	mustAdd(t, &one, span(0, 9), span(12, 13))
	inEveryOrder(steps, len(steps), func(order []api.Range) {
		var up, down sizes.Ranges
		mustAdd(t, &up, order...)
		mustAdd(t, &down, span(0, 20))
		mustCut(t, &down, span(9, 12), span(13, 20))
		mustCut(t, &down, order...)
		mustAdd(t, &down, order...)
		for _, r := range []*sizes.Ranges{&up, &down} {
			wantAlike(t, r, &one)
		}
	})
}

func inEveryOrder(list []api.Range, n int, do func([]api.Range)) {
	if n == 1 {
		do(list)
		return
	}
	for i := range n {
		list[i], list[n-1] = list[n-1], list[i]
		inEveryOrder(list, n-1, do)
		list[i], list[n-1] = list[n-1], list[i]
	}
}

func wantAlike(t *testing.T, a, b *sizes.Ranges) {
	t.Helper()
	wantRanges(t, "all", a.All(), b.All()...)
	if a.Total() != b.Total() {
		t.Errorf("Total: %d, %d", a.Total(), b.Total())
	}
	for from := int64(0); from < 22; from++ {
		for to := from; to < 22; to++ {
			x := span(from, to)
			wantRanges(t, "gaps", a.Gaps(x), b.Gaps(x)...)
			if a.Has(x) != b.Has(x) {
				t.Errorf("Has(%v): %t, %t", x, a.Has(x), b.Has(x))
			}
		}
	}
}

// P1.7: what is in and what is not make up a range that holds all.
func TestRangesAndGapsMakeUpTheWhole(t *testing.T) {
	for set := range uint(1 << places) {
		r := makeSet(t, set)
		for _, whole := range []api.Range{span(0, places), span(0, places+100), span(0, api.MaxSize)} {
			sum := r.Total()
			for _, g := range r.Gaps(whole) {
				sum += g.To - g.From
			}
			if sum != whole.To-whole.From {
				t.Errorf("%b in %v: %d", set, whole, sum)
			}
		}
	}
}

// P1.7: MaxRanges ranges that come in from behind, or first the even ones, are the set that comes in rising.
func TestRangesManyInAnyOrder(t *testing.T) {
	want := fullSet(t).All()
	var falling, mixed sizes.Ranges
	for i := int64(api.MaxRanges) - 1; i >= 0; i-- {
		mustAdd(t, &falling, fullSpan(i))
	}
	for _, first := range []int64{0, 1} {
		for i := first; i < api.MaxRanges; i += 2 {
			mustAdd(t, &mixed, fullSpan(i))
		}
	}
	wantSame(t, &falling, want)
	wantSame(t, &mixed, want)
}

// P1.4: two sets know nothing of one another.
func TestRangesStandAlone(t *testing.T) {
	var a, b sizes.Ranges
	mustAdd(t, &a, span(0, 5))
	mustAdd(t, &b, span(2, 3))
	mustCut(t, &a, span(1, 4))
	wantRanges(t, "a", a.All(), span(0, 1), span(4, 5))
	wantRanges(t, "b", b.All(), span(2, 3))
}
