package pax

import (
	"iter"
	"maps"
	"slices"

	"satchel/api"
)

// Merge is what holds, if some pairs stand over others: by their keys.
func Merge(below, above []api.Pair) []api.Pair {
	last := map[string]api.Pair{}
	for p := range inTurn(below, above) {
		last[p.Key] = p
	}
	var l []api.Pair
	for _, key := range slices.Sorted(maps.Keys(last)) {
		if last[key].Value != "" {
			l = append(l, last[key])
		}
	}
	return l
}

// inTurn goes over the pairs of several lists, one list behind the other.
func inTurn(lists ...[]api.Pair) iter.Seq[api.Pair] {
	return func(yield func(api.Pair) bool) {
		for _, l := range lists {
			for _, p := range l {
				if !yield(p) {
					return
				}
			}
		}
	}
}

// Find is a key's value.
func Find(l []api.Pair, key string) (string, bool) {
	for _, p := range slices.Backward(l) {
		if p.Key == key {
			return p.Value, true
		}
	}
	return "", false
}
