package bits_test

import (
	"cmp"
	"container/heap"
	"math"
	"math/rand"
	"slices"
	"testing"

	"satchel/api"
	"satchel/bits"
)

// cost is the sum of often times length.
func cost(often []int64, lengths []int) int64 {
	var sum int64
	for i, n := range often {
		sum += n * int64(lengths[i])
	}
	return sum
}

// wholeCodes is all whole codes of so many symbols, each with a word, none longer than most.
func wholeCodes(symbols, most int) [][]int {
	var all [][]int
	// No word of a whole code is longer than one less than there are symbols.
	most = min(most, symbols-1)
	l := slices.Repeat([]int{1}, symbols)
	for more := true; more; more = turnOn(l, 1, most) {
		if isWhole(l) {
			all = append(all, slices.Clone(l))
		}
	}
	return all
}

// leastByDepth is the least cost that a whole code can have: the symbols that come most are nearest to the root, and of each depth it is tried how many words end there.
func leastByDepth(often []int64, most int) int64 {
	var come []int64
	for _, n := range often {
		if n > 0 {
			come = append(come, n)
		}
	}
	slices.SortFunc(come, func(x, y int64) int { return cmp.Compare(y, x) })
	behind := make([]int64, len(come)+1)
	for i := len(come) - 1; i >= 0; i-- {
		behind[i] = behind[i+1] + come[i]
	}
	type place struct{ depth, placed, open int }
	known := map[place]int64{}
	var least func(p place) int64
	least = func(p place) int64 {
		left := len(come) - p.placed
		if p.open == left {
			return 0
		}
		if p.depth == most || p.open > left {
			return math.MaxInt64
		}
		if n, ok := known[p]; ok {
			return n
		}
		best := int64(math.MaxInt64)
		for words := range p.open {
			placed := p.placed + words
			if n := least(place{p.depth + 1, placed, 2 * (p.open - words)}); n < math.MaxInt64 {
				best = min(best, n+behind[placed])
			}
		}
		known[p] = best
		return best
	}
	return least(place{0, 0, 1})
}

// pile is a heap of numbers, the least on top.
type pile []int64

func (p pile) Len() int           { return len(p) }
func (p pile) Less(i, j int) bool { return p[i] < p[j] }
func (p pile) Swap(i, j int)      { p[i], p[j] = p[j], p[i] }
func (p *pile) Push(x any)        { *p = append(*p, x.(int64)) }
func (p *pile) Pop() any {
	x := (*p)[len(*p)-1]
	*p = (*p)[:len(*p)-1]
	return x
}

// huffman is the least cost of a code whose words may be of any length.
func huffman(often []int64) int64 {
	var p pile
	for _, n := range often {
		if n > 0 {
			p = append(p, n)
		}
	}
	heap.Init(&p)
	var sum int64
	for len(p) > 1 {
		two := heap.Pop(&p).(int64) + heap.Pop(&p).(int64)
		sum += two
		heap.Push(&p, two)
	}
	return sum
}

// heldLengths holds an answer to all that P5.5 says but its cost, and answers that.
func heldLengths(t *testing.T, often []int64, most int) int64 {
	t.Helper()
	l, why := bits.Lengths(often, most)
	if why != api.OK || len(l) != len(often) {
		t.Fatalf("Lengths(%v, %d): %v %d", often, most, l, why)
	}
	come := 0
	for i, n := range often {
		if n > 0 {
			come++
		}
		if (l[i] == 0) != (n == 0) || l[i] < 0 || l[i] > most {
			t.Fatalf("Lengths(%v, %d): %v", often, most, l)
		}
	}
	if come == 1 && slices.Max(l) != 1 || come > 1 && !isWhole(l) {
		t.Fatalf("Lengths(%v, %d): %v: not whole", often, most, l)
	}
	if come > 0 {
		if c := mustCode(t, l); c.Whole() != (come > 1) {
			t.Fatalf("Lengths(%v, %d): %v: whole: %v", often, most, l, c.Whole())
		}
	}
	return cost(often, l)
}

// P5.5: the chapter's third example.
func TestLengthsExample(t *testing.T) {
	for _, x := range []struct {
		often []int64
		most  int
		want  []int
		why   api.Errno
	}{
		{[]int64{5, 1, 1, 0}, 15, []int{1, 2, 2, 0}, api.OK},
		{[]int64{5, 2, 1, 1}, 2, []int{2, 2, 2, 2}, api.OK},
		{[]int64{7}, 1, []int{1}, api.OK},
		{[]int64{1, 1, 1}, 1, nil, api.ErrLong},
	} {
		if l, why := bits.Lengths(x.often, x.most); !slices.Equal(l, x.want) || why != x.why {
			t.Errorf("Lengths(%v, %d): %v %d, not %v %d", x.often, x.most, l, why, x.want, x.why)
		}
	}
}

// P5.5: what is refused, and which error comes first; and what is just allowed.
func TestLengthsEdges(t *testing.T) {
	of := func(n int, often int64) []int64 { return slices.Repeat([]int64{often}, n) }
	const top = 1 << 40
	for _, x := range []struct {
		name  string
		often []int64
		most  int
		why   api.Errno
	}{
		{"no numbers", nil, 15, api.ErrArg},
		{"no numbers, not nil", []int64{}, 1, api.ErrArg},
		{"MaxSyms", of(api.MaxSyms, 1), 9, api.OK},
		{"MaxSyms, one above 0", append(of(api.MaxSyms-1, 0), 1), 1, api.OK},
		{"MaxSyms and one more", of(api.MaxSyms+1, 1), 15, api.ErrArg},
		{"MaxSyms and one more, all 0", of(api.MaxSyms+1, 0), 15, api.ErrArg},
		{"below 0", []int64{1, -1}, 15, api.ErrArg},
		{"far below", []int64{math.MinInt64, 1}, 15, api.ErrArg},
		{"2^40", []int64{1, top}, 15, api.OK},
		{"MaxSyms of 2^40", of(api.MaxSyms, top), 9, api.OK},
		{"MaxSyms of 2^40, most 15", of(api.MaxSyms, top), 15, api.OK},
		{"2^40 and 1", []int64{1, top + 1}, 15, api.ErrArg},
		{"2^40 and 1 alone", []int64{top + 1}, 15, api.ErrArg},
		{"far above", []int64{1, math.MaxInt64}, 15, api.ErrArg},
		{"most 0", []int64{1, 1}, 0, api.ErrArg},
		{"most 0, all 0", []int64{0}, 0, api.ErrArg},
		{"most below 0", []int64{1, 1}, -1, api.ErrArg},
		{"most far below", []int64{1, 1}, math.MinInt, api.ErrArg},
		{"most 15", []int64{1, 1}, 15, api.OK},
		{"most 16", []int64{1, 1}, 16, api.ErrArg},
		{"most far above", []int64{1, 1}, math.MaxInt, api.ErrArg},
		{"both errors", []int64{1, 1, 1, -1}, 1, api.ErrArg},
		{"both errors, 2^40 and 1", []int64{1, 1, top + 1}, 1, api.ErrArg},
		{"both errors, too many", of(api.MaxSyms+1, 1), 8, api.ErrArg},
		{"MaxSyms, most 8", of(api.MaxSyms, 1), 8, api.ErrLong},
		{"none above 0", of(7, 0), 1, api.OK},
		{"just one above 0", []int64{0, 0, 3, 0}, 1, api.OK},
		{"just one above 0, most 15", []int64{0, 0, top, 0}, 15, api.OK},
		{"two above 0", []int64{0, 9, 0, 1}, 1, api.OK},
	} {
		l, why := bits.Lengths(x.often, x.most)
		if why != x.why || why != api.OK && len(l) != 0 {
			t.Errorf("%s: %v %d, not %d", x.name, l, why, x.why)
		}
		if why == api.OK {
			heldLengths(t, x.often, x.most)
		}
	}
}

// P5.5: just 2^most symbols, and one more, with zeros among them that are not counted.
func TestLengthsOfJustSoMany(t *testing.T) {
	random := rand.New(rand.NewSource(55))
	for most := 1; most <= 8; most++ {
		often := make([]int64, 1<<most+10)
		for i := range 1 << most {
			often[i] = 1 + random.Int63n(1<<uint(4*most))
		}
		random.Shuffle(len(often), func(i, j int) { often[i], often[j] = often[j], often[i] })
		l, why := bits.Lengths(often, most)
		if why != api.OK {
			t.Fatal(most, why)
		}
		for i, n := range often {
			if n > 0 && l[i] != most || n == 0 && l[i] != 0 {
				t.Fatalf("most %d: %v of %v", most, l, often)
			}
		}
		often[slices.Index(often, 0)] = 1
		if l, why := bits.Lengths(often, most); len(l) != 0 || why != api.ErrLong {
			t.Errorf("most %d, one more: %v %d", most, l, why)
		}
		heldLengths(t, often, most+1)
	}
}

// P5.5: against a search through all codes of few symbols.
func TestLengthsAgainstAllCodes(t *testing.T) {
	random := rand.New(rand.NewSource(58))
	for symbols := 2; symbols <= 7; symbols++ {
		for most := 1; most <= symbols; most++ {
			codes := wholeCodes(symbols, most)
			if len(codes) == 0 {
				continue
			}
			try := func(often []int64) {
				t.Helper()
				least := int64(math.MaxInt64)
				for _, l := range codes {
					least = min(least, cost(often, l))
				}
				if got := heldLengths(t, often, most); got != least {
					t.Fatalf("Lengths(%v, %d): %d, not %d", often, most, got, least)
				}
			}
			if symbols <= 5 {
				small := slices.Repeat([]int{1}, symbols)
				for more := true; more; more = turnOn(small, 1, 4) {
					try(wide(small))
				}
			}
			for range 100 {
				often := make([]int64, symbols)
				for i := range often {
					often[i] = 1 + random.Int63n(1<<uint(random.Intn(41)))
				}
				try(often)
			}
		}
	}
}

func wide(l []int) []int64 {
	out := make([]int64, len(l))
	for i, n := range l {
		out[i] = int64(n)
	}
	return out
}

// steep is numbers each of which is the sum of the two ahead, so that the best code of any lengths is as deep as can be.
func steep(n int) []int64 {
	l := []int64{1, 1}
	for len(l) < n {
		l = append(l, min(l[len(l)-1]+l[len(l)-2], 1<<40))
	}
	return l[:n]
}

// P5.5: many symbols, at every most, against the least cost found another way.
func TestLengthsOfMany(t *testing.T) {
	random := rand.New(rand.NewSource(59))
	lists := [][]int64{steep(20), steep(40), steep(60), slices.Repeat([]int64{3}, 33), append(slices.Repeat([]int64{1}, 30), 1<<40)}
	for range 25 {
		l := make([]int64, 2+random.Intn(60))
		wideness := 1 + random.Intn(40)
		for i := range l {
			l[i] = random.Int63n(1 << uint(random.Intn(wideness+1)))
		}
		lists = append(lists, append(l, 1, 2))
	}
	for _, often := range lists {
		random.Shuffle(len(often), func(i, j int) { often[i], often[j] = often[j], often[i] })
		for most := 1; most <= api.MaxCode; most++ {
			if _, why := bits.Lengths(often, most); why == api.ErrLong {
				if leastByDepth(often, most) != math.MaxInt64 {
					t.Fatalf("Lengths(%v, %d): ErrLong", often, most)
				}
				continue
			}
			if got, want := heldLengths(t, often, most), leastByDepth(often, most); got != want {
				t.Fatalf("Lengths(%v, %d): %d, not %d", often, most, got, want)
			}
		}
	}
}

// P5.5: MaxSyms symbols, where no word is so long that most plays a part, and where many would be.
func TestLengthsOfAll(t *testing.T) {
	random := rand.New(rand.NewSource(60))
	for range 20 {
		often := make([]int64, api.MaxSyms)
		for i := range often {
			often[i] = 1<<11 + random.Int63n(1<<12)
		}
		if got, want := heldLengths(t, often, api.MaxCode), huffman(often); got != want {
			t.Fatalf("Lengths(%v, 15): %d, not %d", often, got, want)
		}
	}
	often := make([]int64, api.MaxSyms)
	for i := range often {
		often[i] = 1<<(i/8) + random.Int63n(3)
	}
	for _, most := range []int{9, 10, 12, 15} {
		if got, want := heldLengths(t, often, most), leastByDepth(often, most); got != want {
			t.Fatalf("most %d: %d, not %d", most, got, want)
		}
	}
}

// Memory: the numbers stay as they are, and each answer is its own.
func TestLengthsMemory(t *testing.T) {
	often, unchanged := spare(t, []int64{9, 0, 4, 1, 1}, 7)
	first, _ := bits.Lengths(often, 3)
	want := slices.Clone(first)
	unchanged()
	spoil(first, 77)
	if again, _ := bits.Lengths(often, 3); !slices.Equal(again, want) {
		t.Error(again, want)
	}
}
