package sizes_test

import (
	"math"
	"sync"
	"testing"

	"satchel/api"
	"satchel/sizes"
)

func newBudget(t *testing.T, total int64) *sizes.Budget {
	t.Helper()
	b, why := sizes.NewBudget(total)
	if b == nil || why != api.OK {
		t.Fatalf("NewBudget(%d): %v, %d", total, b, why)
	}
	return b
}

func wantLeftAndSpent(t *testing.T, b *sizes.Budget, left, spent int64) {
	t.Helper()
	if b.Left() != left || b.Spent() != spent {
		t.Errorf("left %d, spent %d; want %d, %d", b.Left(), b.Spent(), left, spent)
	}
}

// P1.2
func TestNewBudget(t *testing.T) {
	for _, total := range []int64{0, 1, 10, api.MaxSize} {
		wantLeftAndSpent(t, newBudget(t, total), total, 0)
	}
	for _, total := range []int64{-1, -10, math.MinInt64} {
		if b, why := sizes.NewBudget(total); b != nil || why != api.ErrArg {
			t.Errorf("NewBudget(%d): %v, %d", total, b, why)
		}
	}
}

type step struct {
	back  bool
	n     int64
	why   api.Errno
	spent int64
}

func play(t *testing.T, total int64, steps []step) {
	t.Helper()
	b := newBudget(t, total)
	for i, s := range steps {
		call := b.Spend
		if s.back {
			call = b.Back
		}
		if why := call(s.n); why != s.why {
			t.Errorf("budget of %d, step %d (%v): %d", total, i, s, why)
		}
		wantLeftAndSpent(t, b, total-s.spent, s.spent)
	}
}

// P1.2: the chapter's example, and the edges 0 and MaxSize.
func TestBudgetWrittenOut(t *testing.T) {
	play(t, 10, []step{
		{false, 7, api.OK, 7},
		{false, 4, api.ErrBudget, 7},
		{false, 3, api.OK, 10},
		{false, 0, api.OK, 10},
		{false, 1, api.ErrBudget, 10},
		{false, -1, api.ErrArg, 10},
		{false, math.MinInt64, api.ErrArg, 10},
		{true, 11, api.ErrArg, 10},
		{true, -1, api.ErrArg, 10},
		{true, math.MinInt64, api.ErrArg, 10},
		{true, 0, api.OK, 10},
		{true, 3, api.OK, 7},
		{true, 8, api.ErrArg, 7},
		{true, 7, api.OK, 0},
		{true, 1, api.ErrArg, 0},
		{false, 10, api.OK, 10},
	})
	play(t, 0, []step{
		{false, 0, api.OK, 0},
		{true, 0, api.OK, 0},
		{false, 1, api.ErrBudget, 0},
		{true, 1, api.ErrArg, 0},
		{false, api.MaxSize, api.ErrBudget, 0},
	})
	play(t, api.MaxSize, []step{
		{false, api.MaxSize - 1, api.OK, api.MaxSize - 1},
		{false, api.MaxSize, api.ErrBudget, api.MaxSize - 1},
		{false, 2, api.ErrBudget, api.MaxSize - 1},
		{false, 1, api.OK, api.MaxSize},
		{true, api.MaxSize, api.OK, 0},
		{false, api.MaxSize, api.OK, api.MaxSize},
		{false, api.MaxSize, api.ErrBudget, api.MaxSize},
	})
}

// P1.2: every way of three calls on small budgets.
func TestBudgetEveryWay(t *testing.T) {
	for total := int64(0); total <= 3; total++ {
		everyWay(t, total, nil, 0)
	}
}

func everyWay(t *testing.T, total int64, ahead []step, spent int64) {
	if len(ahead) == 3 {
		play(t, total, ahead)
		return
	}
	for n := int64(-1); n <= total+1; n++ {
		for _, back := range []bool{false, true} {
			s := step{back: back, n: n, spent: spent}
			switch {
			case n < 0 || back && n > spent:
				s.why = api.ErrArg
			case back:
				s.spent -= n
			case n > total-spent:
				s.why = api.ErrBudget
			default:
				s.spent += n
			}
			everyWay(t, total, append(ahead[:len(ahead):len(ahead)], s), s.spent)
		}
	}
}

// P1.2: two budgets know nothing of one another.
func TestBudgetsStandAlone(t *testing.T) {
	a, b := newBudget(t, 5), newBudget(t, 5)
	a.Spend(4)
	wantLeftAndSpent(t, a, 1, 4)
	wantLeftAndSpent(t, b, 5, 0)
}

// atOnce runs do on so many goroutines, which begin together, and waits for all.
func atOnce(many int, do func(worker int)) {
	var all sync.WaitGroup
	begin := make(chan struct{})
	for w := range many {
		all.Go(func() {
			<-begin
			do(w)
		})
	}
	close(begin)
	all.Wait()
}

// P1.3, P1.6: of a budget that many want more of than there is, just what there is is spent.
func TestManySpendNeverMore(t *testing.T) {
	const workers, calls, total = 16, 5000, 30000
	b := newBudget(t, total)
	var got [workers]int64
	atOnce(workers, func(w int) {
		for range calls {
			if b.Spend(1) == api.OK {
				got[w]++
			}
		}
	})
	sum := int64(0)
	for _, n := range got {
		sum += n
	}
	if sum != total {
		t.Errorf("%d were answered OK; want %d", sum, total)
	}
	wantLeftAndSpent(t, b, 0, total)
}

// P1.3, P1.6: with amounts of all sizes, what is answered OK adds up to Spent, and no look in between sees more than the total.
func TestManySpendUnlikeAmounts(t *testing.T) {
	const workers, calls = 12, 2000
	for _, total := range []int64{0, 1, 999, 50000, api.MaxSize} {
		b := newBudget(t, total)
		var got [workers]int64
		atOnce(workers, func(w int) {
			last := int64(0)
			for i := range calls {
				n := int64((w*31 + i*17) % 23)
				if b.Spend(n) == api.OK {
					got[w] += n
				}
				seen := b.Spent()
				if seen < last || seen < got[w] || seen > total {
					t.Errorf("spent %d behind %d, own %d, total %d", seen, last, got[w], total)
				}
				last = seen
			}
		})
		sum := int64(0)
		for _, n := range got {
			sum += n
		}
		wantLeftAndSpent(t, b, total-sum, sum)
	}
}

// P1.3: a refusal spends nothing, also for those beside it: everyone gives back what it got, and all is there again.
func TestManySpendAndGiveBack(t *testing.T) {
	const workers, calls, total = 16, 3000, 20
	b := newBudget(t, total)
	atOnce(workers, func(w int) {
		n := int64(w%7 + 1)
		for range calls {
			if b.Spend(n) == api.OK {
				if why := b.Back(n); why != api.OK {
					t.Errorf("Back(%d) of what was spent: %d", n, why)
				}
			}
			if left := b.Left(); left < 0 || left > total {
				t.Errorf("left %d of %d", left, total)
			}
		}
	})
	wantLeftAndSpent(t, b, total, 0)
}

// P1.3: what one gave back is not given back by another, too. Enough calls that goroutines without a lock between them would meet.
func TestManyGiveBackNeverMore(t *testing.T) {
	const workers, calls, total = 16, 40000, 600000
	b := newBudget(t, total)
	b.Spend(total)
	var got [workers]int64
	atOnce(workers, func(w int) {
		n := int64(0)
		for range calls {
			if b.Back(1) == api.OK {
				n++
			}
		}
		got[w] = n
	})
	sum := int64(0)
	for _, n := range got {
		sum += n
	}
	if sum != total {
		t.Errorf("%d were given back; want %d", sum, total)
	}
	wantLeftAndSpent(t, b, total, 0)
}
