package quota_test

import (
	"math/rand"
	"testing"

	"satchel/api"
	"satchel/quota"
)

// The chapter's first example: P18.1 to P18.3.
func TestExampleMeter(t *testing.T) {
	m := newMeter(t, api.Quota{Bytes: 10, Entries: 2, Depth: 1})
	for i, x := range []struct {
		e   api.Entry
		why api.Errno
	}{
		{file("a", 7), api.OK},
		{file("b", 4), api.ErrQuota},
		{file("b/c", 1), api.ErrDepth},
		{file("../b", 1), api.ErrDots},
		{dir("d"), api.OK},
		{dir("e"), api.ErrEntries},
		{file("../b", -1), api.ErrEntries},
	} {
		if why := m.Take(x.e); why != x.why {
			t.Errorf("step %d: %d, not %d", i, why, x.why)
		}
	}
	if left, used := m.Left(), m.Used(); left != (api.Quota{Bytes: 3, Entries: 0, Depth: 1}) || used != (api.Quota{Bytes: 7, Entries: 2}) {
		t.Errorf("left %v, used %v", left, used)
	}
	if why := m.Back(file("a", 7)); why != api.OK {
		t.Errorf("Back: %d", why)
	}
	if left, used := m.Left(), m.Used(); left != (api.Quota{Bytes: 10, Entries: 1, Depth: 1}) || used != (api.Quota{Bytes: 0, Entries: 1}) {
		t.Errorf("behind Back: left %v, used %v", left, used)
	}
}

// edges are quotas with each of Bytes, Entries and Depth at -1, 0, 1, the greatest and the least number there is.
func edges() []api.Quota {
	var all []api.Quota
	numbers := []int{-1, 0, 1, mostInt, leastInt}
	for _, bytes := range []int64{-1, 0, 1, mostBytes, leastBytes} {
		for _, entries := range numbers {
			for _, depth := range numbers {
				all = append(all, api.Quota{Bytes: bytes, Entries: entries, Depth: depth})
			}
		}
	}
	return all
}

// P18.1, P18.3: New and Outer of every quota at the edges.
func TestNewAndOuterAtEdges(t *testing.T) {
	can := 0
	for _, q := range edges() {
		m, why := quota.New(q)
		if got, want := quota.Outer(q), modelOuter(q); got != want {
			t.Errorf("Outer(%v): %d, not %d", q, got, want)
		}
		if q.Bytes < 0 || q.Entries < 0 || q.Depth < 0 {
			if m != nil || why != api.ErrArg || quota.Outer(q) != 0 {
				t.Errorf("New(%v): %p, %d; Outer: %d", q, m, why, quota.Outer(q))
			}
			continue
		}
		can++
		if m == nil || why != api.OK {
			t.Fatalf("New(%v): %p, %d", q, m, why)
		}
		if m.Left() != q || m.Used() != (api.Quota{}) {
			t.Errorf("New(%v): left %v, used %v", q, m.Left(), m.Used())
		}
	}
	if can != 27 {
		t.Errorf("%d can be, not 27", can)
	}
}

// P18.1: the least of two, written out: the chapter's second example, the sum about MaxBlock, and parts beyond 64 bits.
func TestOuterWrittenOut(t *testing.T) {
	const room = 1<<22 - 1024 - 1<<20 // 3144704: what is left for bytes and entries
	for _, x := range []struct {
		bytes   int64
		entries int
		want    int
	}{
		{0, 0, 1049600},
		{mostBytes, 0, 4194304},
		{1, 0, 1049601},
		{0, 1, 1051136},
		{5, 2, 1052677},
		{room - 1, 0, 4194303},
		{room, 0, 4194304},
		{room + 1, 0, 4194304},
		{room - 1536 - 1, 1, 4194303},
		{room - 1536, 1, 4194304},
		{room - 1536 + 1, 1, 4194304},
		{0, 2047, 4193792}, // 2047 entries are 512 below the room
		{511, 2047, 4194303},
		{512, 2047, 4194304},
		{513, 2047, 4194304},
		{0, 2048, 4194304},
		{1 << 22, 0, 4194304},
		{1<<22 - 1, 0, 4194304},
		{0, 1 << 22, 4194304},
		{1 << 32, 0, 4194304},
		{0, 1 << 32, 4194304},
		{mostBytes, mostInt, 4194304},
		{0, mostInt, 4194304},
		{0, (1<<55 + 1) / 3, 4194304},     // 1536 of them are 2^64 + 512
		{0, (1<<54 + 2) / 3, 4194304},     // 2^63 + 1024
		{mostBytes - 1049599, 0, 1 << 22}, // the sum is 2^63 - 1 + 1
		{mostBytes, (1<<54 + 2) / 3, 4194304},
	} {
		for _, depth := range []int{0, 5, mostInt} {
			q := api.Quota{Bytes: x.bytes, Entries: x.entries, Depth: depth}
			if got := quota.Outer(q); got != x.want || modelOuter(q) != x.want {
				t.Errorf("Outer(%v): %d, the model's %d, not %d", q, got, modelOuter(q), x.want)
			}
		}
	}
}

// P18.1: quotas by chance, of all magnitudes.
func TestOuterByChance(t *testing.T) {
	r := rand.New(rand.NewSource(18))
	for range 200000 {
		q := api.Quota{Bytes: r.Int63() >> r.Intn(63), Entries: int(r.Int63() >> r.Intn(63)), Depth: int(r.Int63() >> r.Intn(63))}
		switch r.Intn(20) {
		case 0:
			q.Bytes = -q.Bytes
		case 1:
			q.Entries = -q.Entries
		case 2:
			q.Depth = -q.Depth
		}
		if got, want := quota.Outer(q), modelOuter(q); got != want {
			t.Fatalf("Outer(%v): %d, not %d", q, got, want)
		}
	}
}

// P18.3: what New was handed stays the quota, whatever becomes of the answers.
func TestAnswersAreValues(t *testing.T) {
	q := api.Quota{Bytes: 5, Entries: 3, Depth: 2}
	m := newMeter(t, q)
	left, used := m.Left(), m.Used()
	q.Bytes, left.Entries, used.Bytes = 100, 100, 100
	if m.Left() != (api.Quota{Bytes: 5, Entries: 3, Depth: 2}) || m.Used() != (api.Quota{}) {
		t.Errorf("left %v, used %v", m.Left(), m.Used())
	}
}
