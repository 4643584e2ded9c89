package index_test

import (
	"bytes"
	"fmt"
	"math/big"
	"reflect"
	"slices"
	"strings"
	"testing"
	"time"

	"satchel/api"
	"satchel/index"
	"satchel/path"
	"satchel/reader"
	"satchel/xxh"
)

// oneName tells whether two names are one.
func oneName(a, b string) bool {
	a, whyA := path.Clean(a)
	b, whyB := path.Clean(b)
	return whyA == api.OK && whyB == api.OK && a == b
}

// modelFind is the last entry of a name.
func modelFind(items []api.Item, name string) (int, bool) {
	for i := len(items) - 1; i >= 0; i-- {
		if oneName(items[i].Entry.Name, name) {
			return i, true
		}
	}
	return 0, false
}

// modelUnder is P23.2, by the components.
func modelUnder(items []api.Item, name string) []int {
	dir, why := path.Split(name)
	if name == "" {
		dir, why = nil, api.OK
	}
	var l []int
	for i, x := range items {
		parts, e := path.Split(x.Entry.Name)
		if why == api.OK && e == api.OK && len(parts) > len(dir) && slices.Equal(parts[:len(dir)], dir) {
			l = append(l, i)
		}
	}
	return l
}

// modelFollow is P23.3.
func modelFollow(items []api.Item, i int) (int, api.Errno) {
	if i < 0 || i >= len(items) {
		return 0, api.ErrItem
	}
	switch items[i].Entry.Kind {
	case 2:
		return i, api.OK
	case 4:
		j, there := modelFind(items[:i], items[i].Entry.Link)
		if !there {
			return 0, api.ErrItem
		}
		return modelFollow(items, j)
	}
	return 0, api.ErrLink
}

// modelSame is P23.4; was is what Make looked through.
func modelSame(was, b []byte, items []api.Item, i int) bool {
	if i < 0 || i >= len(items) || len(b) < items[i].Next {
		return false
	}
	from, next := items[i].From, items[i].Next
	return xxh.Sum64(0, b[from:next]) == xxh.Sum64(0, was[from:next])
}

// modelData is P23.4.
func modelData(was, b []byte, items []api.Item, i int) ([]byte, api.Errno) {
	j, why := modelFollow(items, i)
	if why != api.OK {
		return nil, why
	}
	if !modelSame(was, b, items, i) || !modelSame(was, b, items, j) {
		return nil, api.ErrStale
	}
	return reader.Content(b, items[j])
}

// modelLine is P23.5.
func modelLine(items []api.Item, i int) string {
	if i < 0 || i >= len(items) {
		return ""
	}
	e := items[i].Entry
	bit := func(n uint32) bool { return e.Meta.Mode&n > 0 }
	text := string("?d-lh?"[e.Kind])
	for _, who := range []struct {
		r, w, x, special uint32
		letters          string
	}{{256, 128, 64, 2048, "sS"}, {32, 16, 8, 1024, "sS"}, {4, 2, 1, 512, "tT"}} {
		text += map[bool]string{true: "r", false: "-"}[bit(who.r)]
		text += map[bool]string{true: "w", false: "-"}[bit(who.w)]
		text += map[[2]bool]string{{true, true}: who.letters[:1], {false, true}: who.letters[1:], {true, false}: "x", {false, false}: "-"}[[2]bool{bit(who.x), bit(who.special)}]
	}
	user, group := e.User, e.Group
	if user == "" {
		user = fmt.Sprint(e.Meta.Uid)
	}
	if group == "" {
		group = fmt.Sprint(e.Meta.Gid)
	}
	size := int64(0)
	if e.Kind == api.File {
		size = e.Size
	}
	text += fmt.Sprintf(" %s/%s %d %s %s", user, group, size, modelMoment(e.Meta.Time), e.Name)
	switch e.Kind {
	case api.Symlink:
		text += " -> " + e.Link
	case api.HardLink:
		text += " link to " + e.Link
	}
	return text
}

// modelMoment is a day and its time, by the library's calendar, in the 400 years from 2000 on; all others are the same but for the year.
func modelMoment(seconds int64) string {
	span := time.Date(2400, 1, 1, 0, 0, 0, 0, time.UTC).Unix() - time.Date(2000, 1, 1, 0, 0, 0, 0, time.UTC).Unix()
	first := time.Date(2000, 1, 1, 0, 0, 0, 0, time.UTC).Unix()
	behind := new(big.Int).Sub(big.NewInt(seconds), big.NewInt(first))
	cycles, rest := new(big.Int).DivMod(behind, big.NewInt(span), new(big.Int))
	at := time.Unix(first+rest.Int64(), 0).UTC()
	year := int64(at.Year()) + 400*cycles.Int64()
	sign := ""
	if year < 0 {
		sign, year = "-", -year
	}
	return fmt.Sprintf("%s%04d-%02d-%02d %02d:%02d:%02d", sign, year, int(at.Month()), at.Day(), at.Hour(), at.Minute(), at.Second())
}

// brief is a value as a text that is not too long to be looked at.
func brief(x any) string {
	text := fmt.Sprintf("%+v", x)
	if b, is := x.([]byte); is {
		text = fmt.Sprintf("%d bytes: %.300q", len(b), b)
	}
	if len(text) > 1500 {
		return text[:1500] + " .."
	}
	return text
}

// sketch is an archive as what can be read of it.
func sketch(b []byte) string {
	items, at, why := reader.Read(b)
	text := "{"
	for i, x := range items {
		e := x.Entry
		text += fmt.Sprintf("%d: %d %.40q", i, e.Kind, e.Name)
		if e.Link != "" {
			text += fmt.Sprintf(" to %.40q", e.Link)
		}
		text += fmt.Sprintf(" of %d, from %d to %d; ", e.Size, x.From, x.Next)
	}
	return brief(fmt.Sprintf("%s%d at %d of %d}", text, why, at, len(b)))
}

// lent makes a call with a copy of bytes that has spare room, and holds it to leave all of that as it was.
func lent(t *testing.T, b []byte, call func(b []byte)) {
	t.Helper()
	with := slices.Concat(b, []byte("spare room"))
	call(with[:len(b)])
	if !bytes.Equal(with[:len(b)], b) || string(with[len(b):]) != "spare room" {
		t.Fatalf("the bytes were changed: %s", sketch(b))
	}
}

// sameItem tells whether two entries are alike, nil and empty lists too.
func sameItem(a, b api.Item) bool {
	if !slices.Equal(a.Map, b.Map) || !slices.Equal(a.Pairs, b.Pairs) {
		return false
	}
	a.Map, b.Map, a.Pairs, b.Pairs = nil, nil, nil, nil
	return reflect.DeepEqual(a, b)
}

// held is an index, each call of which is held to the model.
type held struct {
	t     *testing.T
	x     *index.Index
	was   []byte
	items []api.Item
}

// refused makes an index of an archive that can't be read, which must answer just that.
func refused(t *testing.T, b []byte) (int, api.Errno) {
	t.Helper()
	_, place, e := reader.Read(b)
	lent(t, b, func(b []byte) {
		if x, at, why := index.Make(b); x != nil || at != place || why != e || e == api.OK {
			t.Fatalf("Make(%s): %v %d %d, not %d %d", sketch(b), x, at, why, place, e)
		}
	})
	return place, e
}

// opened is an index of an archive that can be read, gone through once.
func opened(t *testing.T, b []byte) held {
	t.Helper()
	h := held{t: t, was: slices.Clone(b)}
	items, place, e := reader.Read(h.was)
	h.items = items
	lent(t, b, func(b []byte) {
		x, at, why := index.Make(b)
		if x == nil || at != place || why != api.OK || e != api.OK {
			t.Fatalf("Make(%s): %v %d %d, not %d %d", sketch(b), x, at, why, place, e)
		}
		h.x = x
	})
	h.all()
	return h
}

// beyond are the numbers of all entries, and some of which there is none.
func (h held) beyond() []int {
	l := []int{-1 << 63, -1 << 31, -2, -1, len(h.items), len(h.items) + 1, 1 << 31, 1<<63 - 1}
	for i := range h.items {
		l = append(l, i)
	}
	return l
}

// all makes each call of each entry, and of each name of the archive.
func (h held) all() {
	h.t.Helper()
	if h.x.Len() != len(h.items) {
		h.t.Fatalf("Len of %s: %d", sketch(h.was), h.x.Len())
	}
	for _, i := range h.beyond() {
		h.item(i)
		h.follow(i)
		h.same(h.was, i)
		h.data(h.was, i)
		h.line(i)
	}
	for _, x := range h.items {
		for _, name := range []string{x.Entry.Name, x.Entry.Link} {
			h.find(name)
			h.under(name)
			parts, _ := path.Split(name)
			for n := range parts {
				h.find(strings.Join(parts[:n], "//"))
				h.under(strings.Join(parts[:n], "/./"))
			}
		}
	}
}

func (h held) item(i int) (api.Item, api.Errno) {
	h.t.Helper()
	x, why := h.x.Item(i)
	want, e := api.Item{}, api.ErrItem
	if i >= 0 && i < len(h.items) {
		want, e = h.items[i], api.OK
	}
	if !sameItem(x, want) || why != e {
		h.t.Fatalf("Item(%d) of %s: %+v %d, not %+v %d", i, sketch(h.was), x, why, want, e)
	}
	return x, why
}

func (h held) find(name string) (int, bool) {
	h.t.Helper()
	i, there := h.x.Find(name)
	if want, is := modelFind(h.items, name); i != want || there != is {
		h.t.Fatalf("Find(%q) of %s: %d %t, not %d %t", name, sketch(h.was), i, there, want, is)
	}
	return i, there
}

func (h held) under(name string) []int {
	h.t.Helper()
	l := h.x.Under(name)
	if want := modelUnder(h.items, name); !slices.Equal(l, want) {
		h.t.Fatalf("Under(%q) of %s: %v, not %v", name, sketch(h.was), l, want)
	}
	return l
}

func (h held) follow(i int) (int, api.Errno) {
	h.t.Helper()
	j, why := h.x.Follow(i)
	if want, e := modelFollow(h.items, i); j != want || why != e {
		h.t.Fatalf("Follow(%d) of %s: %d %d, not %d %d", i, sketch(h.was), j, why, want, e)
	}
	return j, why
}

func (h held) same(b []byte, i int) bool {
	h.t.Helper()
	is := false
	lent(h.t, b, func(b []byte) { is = h.x.Same(b, i) })
	if want := modelSame(h.was, b, h.items, i); is != want {
		h.t.Fatalf("Same(%s, %d) of %s: %t", sketch(b), i, sketch(h.was), is)
	}
	return is
}

func (h held) data(b []byte, i int) (string, api.Errno) {
	h.t.Helper()
	var data []byte
	var why api.Errno
	lent(h.t, b, func(b []byte) { data, why = h.x.Data(b, i) })
	if want, e := modelData(h.was, b, h.items, i); !bytes.Equal(data, want) || why != e {
		h.t.Fatalf("Data(%s, %d) of %s: %s %d, not %s %d", sketch(b), i, sketch(h.was), brief(data), why, brief(want), e)
	}
	if why != api.OK && data != nil {
		h.t.Fatalf("Data(%s, %d) of %s: %d, and not nil", sketch(b), i, sketch(h.was), why)
	}
	return string(data), why
}

func (h held) line(i int) string {
	h.t.Helper()
	line := h.x.Line(i)
	if want := modelLine(h.items, i); line != want {
		h.t.Fatalf("Line(%d) of %s: %q, not %q", i, sketch(h.was), line, want)
	}
	return line
}
