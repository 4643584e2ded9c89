package sizes

import (
	"sync"

	"satchel/api"
)

// Budget is what may be spent; many may spend of one at one time.
type Budget struct {
	lock         sync.Mutex
	total, spent int64
}

// NewBudget is a budget of which nothing is spent.
func NewBudget(total int64) (*Budget, api.Errno) {
	if !isSize(total) {
		return nil, api.ErrArg
	}
	return &Budget{total: total}, api.OK
}

// Spend spends n, or nothing if less than that is left.
func (b *Budget) Spend(n int64) api.Errno {
	if !isSize(n) {
		return api.ErrArg
	}
	b.lock.Lock()
	defer b.lock.Unlock()
	// total - spent can't wrap; spent + n could.
	if n > b.total-b.spent {
		return api.ErrBudget
	}
	b.spent += n
	return api.OK
}

// Back gives back n of what was spent.
func (b *Budget) Back(n int64) api.Errno {
	if !isSize(n) {
		return api.ErrArg
	}
	b.lock.Lock()
	defer b.lock.Unlock()
	if n > b.spent {
		return api.ErrArg
	}
	b.spent -= n
	return api.OK
}

// Left is what is left.
func (b *Budget) Left() int64 {
	b.lock.Lock()
	defer b.lock.Unlock()
	return b.total - b.spent
}

// Spent is what is spent.
func (b *Budget) Spent() int64 {
	b.lock.Lock()
	defer b.lock.Unlock()
	return b.spent
}
