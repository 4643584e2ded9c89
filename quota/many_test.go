package quota_test

import (
	"fmt"
	"math/rand"
	"slices"
	"sync"
	"testing"

	"satchel/api"
	"satchel/quota"
)

// atOnce runs do on so many goroutines, which begin together, and waits for all.
func atOnce(many int, do func(worker int)) {
	var all sync.WaitGroup
	begin := make(chan struct{})
	for w := range many {
		all.Go(func() {
			<-begin
			do(w)
		})
	}
	close(begin)
	all.Wait()
}

// P18.4, P18.5: of entries of which many want more than there are, just those are taken.
func TestManyTakeNeverMore(t *testing.T) {
	const workers, calls = 16, 2000
	for _, x := range []struct {
		q    api.Quota
		e    api.Entry
		want int
	}{
		{api.Quota{Bytes: 1 << 40, Entries: 7001, Depth: 1}, file("a", 3), 7001},
		{api.Quota{Bytes: 20003, Entries: 1 << 40, Depth: 1}, file("a", 3), 6667},
		{api.Quota{Bytes: 0, Entries: 7001, Depth: 1}, dir("a"), 7001},
		{api.Quota{Bytes: 1 << 40, Entries: 1 << 40, Depth: 1}, file("a", 3), workers * calls},
		{api.Quota{Bytes: 1 << 40, Entries: 1 << 40, Depth: 1}, file("a/b", 3), 0},
	} {
		m := newMeter(t, x.q)
		var got [workers]int
		atOnce(workers, func(w int) {
			for range calls {
				if m.Take(x.e) == api.OK {
					got[w]++
				}
			}
		})
		sum := 0
		for _, n := range got {
			sum += n
		}
		if used := m.Used(); sum != x.want || used.Entries != sum || used.Bytes != int64(sum)*x.e.Size {
			t.Errorf("of %v: %d were answered OK, used %v; want %d", x.q, sum, used, x.want)
		}
	}
}

// P18.4: a look sees calls as a whole: if each File has 7 bytes, there are always 7 times as many bytes as entries.
func TestLooksSeeWholeCalls(t *testing.T) {
	const workers, calls = 12, 3000
	q := api.Quota{Bytes: 7 * 100, Entries: 100, Depth: 1}
	m := newMeter(t, q)
	atOnce(workers, func(w int) {
		for i := range calls {
			if (i+w)%3 != 0 {
				m.Take(file("a", 7))
			} else {
				m.Back(file("a", 7))
			}
			used, left := m.Used(), m.Left()
			if used.Bytes != 7*int64(used.Entries) || used.Entries < 0 || used.Entries > 100 || used.Depth != 0 {
				t.Errorf("used %v", used)
			}
			if left.Bytes != 7*int64(left.Entries) || left.Entries < 0 || left.Entries > 100 || left.Depth != 1 {
				t.Errorf("left %v", left)
			}
		}
	})
}

// P18.4, P18.5: unlike entries, taken and given back, some of them refused: the sums are those of the calls that were answered OK.
func TestManySums(t *testing.T) {
	const workers, calls = 10, 3000
	for _, q := range []api.Quota{{Bytes: 500, Entries: 60, Depth: 2}, {Bytes: 1 << 40, Entries: 20, Depth: 2}, {Bytes: 90, Entries: 1 << 40, Depth: 2}, {}} {
		m := newMeter(t, q)
		var got [workers]api.Quota
		atOnce(workers, func(w int) {
			r := rand.New(rand.NewSource(int64(w)))
			for range calls {
				got[w] = worker(t, m, r, got[w])
			}
		})
		sum := api.Quota{}
		for _, one := range got {
			sum.Bytes += one.Bytes
			sum.Entries += one.Entries
		}
		if used := m.Used(); used != sum || used.Bytes > q.Bytes || used.Entries > q.Entries {
			t.Errorf("of %v: used %v, the calls' sum %v", q, used, sum)
		}
		if left := m.Left(); left != (api.Quota{Bytes: q.Bytes - sum.Bytes, Entries: q.Entries - sum.Entries, Depth: q.Depth}) {
			t.Errorf("of %v: left %v, the calls' sum %v", q, left, sum)
		}
	}
}

// worker makes one call by chance, and answers what its goroutine has then: it gives back of its own alone, which can't be refused.
func worker(t *testing.T, m *quota.Meter, r *rand.Rand, own api.Quota) api.Quota {
	e := api.Entry{Name: some(r, []string{"a", "a/b", "a/b/c", ".."}), Kind: some(r, kinds), Size: int64(r.Intn(20) - 1)}
	bytes := int64(0)
	if e.Kind == api.File {
		bytes = e.Size
	}
	if own.Entries > 0 && bytes >= 0 && bytes <= own.Bytes && r.Intn(2) == 0 {
		if why := m.Back(e); why != api.OK {
			t.Errorf("Back of one's own: %d", why)
		}
		return api.Quota{Bytes: own.Bytes - bytes, Entries: own.Entries - 1}
	}
	if why := m.Take(e); why != api.OK {
		if why == api.ErrArg && bytes >= 0 {
			t.Errorf("Take: %d", why)
		}
		return own
	}
	return api.Quota{Bytes: own.Bytes + bytes, Entries: own.Entries + 1}
}

// answered is a call on one of several goroutines, and what it was answered.
type answered struct {
	look bool
	call call
	why  api.Errno
	used api.Quota
}

// doOn makes the call, or looks.
func (a *answered) doOn(m *quota.Meter) {
	if a.look {
		a.used = m.Used()
		return
	}
	a.why = a.call.onMeter(m)
}

// agrees tells whether the model answers likewise, and lets it go on.
func (a *answered) agrees(m *model) bool {
	if a.look {
		return m.used() == a.used
	}
	return a.call.onModel(m) == a.why
}

// inSomeOrder tells whether the goroutines' calls, one behind the other in some order that keeps each one's own, are answered so, and come to that end.
func inSomeOrder(m model, lists [][]answered, end api.Quota) bool {
	done := true
	for i, list := range lists {
		if len(list) == 0 {
			continue
		}
		done = false
		next := model{m.quota, slices.Clone(m.bytes), slices.Clone(m.entries)}
		if !list[0].agrees(&next) {
			continue
		}
		rest := slices.Clone(lists)
		rest[i] = list[1:]
		if inSomeOrder(next, rest, end) {
			return true
		}
	}
	return done && m.used() == end
}

// P18.4: whatever calls of some goroutines are answered, there is an order in which one behind the other is answered so.
func TestManyAsIfInSomeOrder(t *testing.T) {
	r := rand.New(rand.NewSource(184))
	for round := range 400 {
		q := api.Quota{Bytes: int64(r.Intn(12)), Entries: r.Intn(5), Depth: 1 + r.Intn(2)}
		m := newMeter(t, q)
		lists := make([][]answered, 3)
		for i := range lists {
			for range 4 {
				e := api.Entry{Name: some(r, []string{"a", "a/b"}), Kind: some(r, []int{api.File, api.File, api.Dir}), Size: int64(r.Intn(6))}
				lists[i] = append(lists[i], answered{look: r.Intn(5) == 0, call: call{r.Intn(3) == 0, e}})
			}
		}
		atOnce(len(lists), func(w int) {
			for i := range lists[w] {
				lists[w][i].doOn(m)
			}
		})
		if !inSomeOrder(model{quota: q}, lists, m.Used()) {
			t.Fatalf("round %d, of %v: no order answers so: %s", round, q, fmt.Sprint(lists))
		}
	}
}

// P18.4: meters used at one time do not touch each other.
func TestMetersAtOnce(t *testing.T) {
	const workers = 8
	var meters [workers]*quota.Meter
	for w := range meters {
		meters[w] = newMeter(t, api.Quota{Bytes: int64(100 * w), Entries: 1000, Depth: 1})
	}
	atOnce(workers, func(w int) {
		for range 900 {
			meters[w].Take(file("a", 1))
		}
	})
	for w, m := range meters {
		n := 100 * w
		if m.Used() != (api.Quota{Bytes: int64(n), Entries: n}) {
			t.Errorf("meter %d: used %v", w, m.Used())
		}
	}
}
