package quota_test

import (
	"fmt"
	"math"
	"math/big"
	"strings"
	"testing"

	"satchel/api"
	"satchel/quota"
)

// The greatest and the least numbers there are.
const (
	mostBytes  = math.MaxInt64
	leastBytes = math.MinInt64
	mostInt    = math.MaxInt
	leastInt   = math.MinInt
)

func file(name string, size int64) api.Entry {
	return api.Entry{Name: name, Kind: api.File, Size: size}
}

func dir(name string) api.Entry {
	return api.Entry{Name: name, Kind: api.Dir}
}

// modelSplit is how many components a name has, or why it is refused: P9.1, in the order of its words.
func modelSplit(name string) (int, api.Errno) {
	pieces := strings.Split(name, "/")
	count, dots, long := 0, false, false
	for _, piece := range pieces {
		dots = dots || piece == ".."
		long = long || len(piece) > 255
		if piece != "" && piece != "." {
			count++
		}
	}
	switch {
	case len(name) > 4096:
		return 0, api.ErrLong
	case strings.Contains(name, "\x00"):
		return 0, api.ErrZero
	case strings.HasPrefix(name, "/"):
		return 0, api.ErrAbsolute
	case dots:
		return 0, api.ErrDots
	case count == 0:
		return 0, api.ErrEmpty
	case long:
		return 0, api.ErrName
	case count > 256:
		return 0, api.ErrDeep
	}
	return count, api.OK
}

// modelOuter is P18.1's sum, of numbers that have no end.
func modelOuter(q api.Quota) int {
	if q.Bytes < 0 || q.Entries < 0 || q.Depth < 0 {
		return 0
	}
	sum := new(big.Int).Mul(big.NewInt(1536), big.NewInt(int64(q.Entries)))
	sum.Add(sum, big.NewInt(q.Bytes))
	sum.Add(sum, big.NewInt(1024+1<<20))
	if sum.Cmp(big.NewInt(1<<22)) > 0 {
		return 1 << 22
	}
	return int(sum.Int64())
}

// model is a meter as the chapter tells of it: all that was taken and given back, to be added up each time.
type model struct {
	quota   api.Quota
	bytes   []int64
	entries []int64
}

// whole is a sum of numbers that has no end.
func whole(list []int64, more ...int64) *big.Int {
	sum := new(big.Int)
	for _, n := range list {
		sum.Add(sum, big.NewInt(n))
	}
	for _, n := range more {
		sum.Add(sum, big.NewInt(n))
	}
	return sum
}

// above tells whether what was taken, and so much more, is above a bound.
func above(list []int64, more int64, bound int64) bool {
	return whole(list, more).Cmp(big.NewInt(bound)) > 0
}

func (m *model) note(bytes, entries int64) {
	m.bytes = append(m.bytes, bytes)
	m.entries = append(m.entries, entries)
}

func (m *model) take(e api.Entry) api.Errno {
	if above(m.entries, 1, int64(m.quota.Entries)) {
		return api.ErrEntries
	}
	count, why := modelSplit(e.Name)
	if why != api.OK {
		return why
	}
	if count > m.quota.Depth {
		return api.ErrDepth
	}
	if e.Kind != api.File {
		m.note(0, 1)
		return api.OK
	}
	if e.Size < 0 {
		return api.ErrArg
	}
	if above(m.bytes, e.Size, m.quota.Bytes) {
		return api.ErrQuota
	}
	m.note(e.Size, 1)
	return api.OK
}

func (m *model) back(e api.Entry) api.Errno {
	bytes := int64(0)
	if e.Kind == api.File {
		bytes = e.Size
	}
	if bytes < 0 || whole(m.bytes).Cmp(big.NewInt(bytes)) < 0 || whole(m.entries).Sign() <= 0 {
		return api.ErrArg
	}
	m.note(-bytes, -1)
	return api.OK
}

func (m *model) used() api.Quota {
	return api.Quota{Bytes: whole(m.bytes).Int64(), Entries: int(whole(m.entries).Int64())}
}

func (m *model) left() api.Quota {
	u := m.used()
	return api.Quota{Bytes: m.quota.Bytes - u.Bytes, Entries: m.quota.Entries - u.Entries, Depth: m.quota.Depth}
}

// both is a meter and its model, on which the same calls are made.
type both struct {
	meter *quota.Meter
	model *model
}

func newMeter(t *testing.T, q api.Quota) *quota.Meter {
	t.Helper()
	m, why := quota.New(q)
	if m == nil || why != api.OK {
		t.Fatalf("New(%v): %p, %d", q, m, why)
	}
	return m
}

func newBoth(t *testing.T, q api.Quota) both {
	t.Helper()
	b := both{newMeter(t, q), &model{quota: q}}
	b.holdSums(t)
	return b
}

// holdSums holds Left and Used to the model and to each other, twice: a look changes nothing.
func (b both) holdSums(t *testing.T) {
	t.Helper()
	for range 2 {
		left, used, q := b.meter.Left(), b.meter.Used(), b.model.quota
		if left != b.model.left() || used != b.model.used() {
			t.Fatalf("of %v: left %v, used %v; want %v, %v", q, left, used, b.model.left(), b.model.used())
		}
		if left.Bytes+used.Bytes != q.Bytes || left.Entries+used.Entries != q.Entries || left.Depth != q.Depth || used.Depth != 0 {
			t.Fatalf("left %v and used %v are not %v", left, used, q)
		}
		if used.Bytes < 0 || used.Bytes > q.Bytes || used.Entries < 0 || used.Entries > q.Entries {
			t.Fatalf("used %v of %v", used, q)
		}
	}
}

// call is Take or Back of an entry.
type call struct {
	back bool
	e    api.Entry
}

func (c call) String() string {
	word := "Take"
	if c.back {
		word = "Back"
	}
	return fmt.Sprintf("%s(%.40q kind %d size %d)", word, c.e.Name, c.e.Kind, c.e.Size)
}

// onMeter and onModel make the call.
func (c call) onMeter(m *quota.Meter) api.Errno {
	if c.back {
		return m.Back(c.e)
	}
	return m.Take(c.e)
}

func (c call) onModel(m *model) api.Errno {
	if c.back {
		return m.back(c.e)
	}
	return m.take(c.e)
}

// held makes a call, holds it and the sums behind it to the model, and answers its error.
func (b both) held(t *testing.T, c call) api.Errno {
	t.Helper()
	left, used := b.meter.Left(), b.meter.Used()
	got, want := c.onMeter(b.meter), c.onModel(b.model)
	if got != want {
		t.Fatalf("of %v, left %v: %v: %d, not %d", b.model.quota, left, c, got, want)
	}
	b.holdSums(t)
	if got != api.OK && (b.meter.Left() != left || b.meter.Used() != used) {
		t.Fatalf("%v: %d, and left %v is %v", c, got, left, b.meter.Left())
	}
	return got
}

func (b both) take(t *testing.T, e api.Entry) api.Errno {
	t.Helper()
	return b.held(t, call{false, e})
}

func (b both) back(t *testing.T, e api.Entry) api.Errno {
	t.Helper()
	return b.held(t, call{true, e})
}
