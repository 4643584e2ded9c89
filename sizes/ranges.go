package sizes

import (
	"slices"
	"sort"

	"satchel/api"
)

// Ranges is a set of places; the zero Ranges is empty.
type Ranges struct {
	// Rising, none empty, none touching another: so a set has one list only, however its places came in.
	list []api.Range
}

// Add puts all places of x in.
func (r *Ranges) Add(x api.Range) api.Errno {
	if !canBe(x) {
		return api.ErrRange
	}
	if x.From == x.To {
		return api.OK
	}
	// Ranges that only touch x are joined with it, too.
	i := r.first(func(y api.Range) bool { return y.To >= x.From })
	j := r.first(func(y api.Range) bool { return y.From > x.To })
	if i < j {
		x.From = min(x.From, r.list[i].From)
		x.To = max(x.To, r.list[j-1].To)
	}
	return r.replace(i, j, x)
}

// Cut takes all places of x out.
func (r *Ranges) Cut(x api.Range) api.Errno {
	if !canBe(x) {
		return api.ErrRange
	}
	// An empty x within a range would part it into two that touch.
	if x.From == x.To {
		return api.OK
	}
	i := r.endsBehind(x.From)
	j := r.first(func(y api.Range) bool { return y.From >= x.To })
	var stay []api.Range
	if i < j && r.list[i].From < x.From {
		stay = append(stay, api.Range{From: r.list[i].From, To: x.From})
	}
	if i < j && x.To < r.list[j-1].To {
		stay = append(stay, api.Range{From: x.To, To: r.list[j-1].To})
	}
	return r.replace(i, j, stay...)
}

// Has tells whether x can be and all its places are in.
func (r *Ranges) Has(x api.Range) bool {
	if !canBe(x) || x.From == x.To {
		return canBe(x)
	}
	i := r.endsBehind(x.From)
	return i < len(r.list) && r.list[i].From <= x.From && x.To <= r.list[i].To
}

// All is the set as ranges, rising, none of which is empty or touches another one.
func (r *Ranges) All() []api.Range {
	return append([]api.Range(nil), r.list...)
}

// Gaps is what of x is not in, as ranges like those of All.
func (r *Ranges) Gaps(x api.Range) []api.Range {
	if !canBe(x) {
		return nil
	}
	var gaps []api.Range
	at := x.From
	for _, y := range r.list[r.endsBehind(x.From):] {
		if y.From >= x.To {
			break
		}
		if at < y.From {
			gaps = append(gaps, api.Range{From: at, To: y.From})
		}
		at = y.To
	}
	if at < x.To {
		gaps = append(gaps, api.Range{From: at, To: x.To})
	}
	return gaps
}

// Total is how many places are in: at most MaxSize, as no two ranges of the list share one.
func (r *Ranges) Total() int64 {
	var total int64
	for _, y := range r.list {
		total += y.To - y.From
	}
	return total
}

// replace puts stay in the place of the list's ranges from i up to j, if the list does not grow too long.
func (r *Ranges) replace(i, j int, stay ...api.Range) api.Errno {
	if len(r.list)-(j-i)+len(stay) > api.MaxRanges {
		return api.ErrLong
	}
	r.list = slices.Replace(r.list, i, j, stay...)
	return api.OK
}

// endsBehind is where the first range of the list is that ends behind place.
func (r *Ranges) endsBehind(place int64) int {
	return r.first(func(y api.Range) bool { return y.To > place })
}

// first is where the first range of the list is of which is holds; it must hold of all behind that one.
func (r *Ranges) first(is func(api.Range) bool) int {
	return sort.Search(len(r.list), func(i int) bool { return is(r.list[i]) })
}

// canBe: no int64 is above MaxSize, so that To needs no look of its own.
func canBe(x api.Range) bool { return 0 <= x.From && x.From <= x.To }
