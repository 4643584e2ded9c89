package index

import (
	"satchel/api"
	"satchel/xxh"
)

// looked is what an archive was when it was looked through: its entries, and of each the sum of its bytes.
type looked struct {
	items []api.Item
	sums  []uint64
}

// look is what an archive is that has these entries.
func look(b []byte, items []api.Item) looked {
	l := looked{items: items}
	for _, item := range items {
		l.sums = append(l.sums, sum(b, item))
	}
	return l
}

// sum is the sum of an entry's bytes, those that tell of it counted in.
func sum(b []byte, item api.Item) uint64 {
	return xxh.Sum64(0, b[item.From:item.Next])
}

// has tells whether there is an entry of that number.
func (l *looked) has(i int) bool {
	return i >= 0 && i < len(l.items)
}

// still tells whether an entry, which must be there, has the same bytes in an archive.
func (l *looked) still(b []byte, i int) bool {
	return l.items[i].Next <= len(b) && sum(b, l.items[i]) == l.sums[i]
}
