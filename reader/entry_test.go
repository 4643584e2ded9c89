package reader_test

import (
	"fmt"
	"math"
	"strings"
	"testing"

	"satchel/api"
)

// P16.1: each value of an entry out of the locals, out of the globals, out of the long names and out of the header: which one counts.
func TestWhichCounts(t *testing.T) {
	header := api.Header{Form: api.GNU, Name: "header", Mode: 0o755, UID: 1, GID: 2, Time: 3, Type: '2', Link: "header", User: "header", Group: "header"}
	plain := api.Entry{Name: "header", Kind: api.Symlink, Meta: api.Meta{Mode: 0o755, Uid: 1, Gid: 2, Time: 3}, User: "header", Group: "header", Link: "header"}
	for _, x := range []struct {
		key, value string
		change     func(e *api.Entry)
	}{
		{"path", "pair", func(e *api.Entry) { e.Name = "pair" }},
		{"linkpath", "pair", func(e *api.Entry) { e.Link = "pair" }},
		{"uname", "pair", func(e *api.Entry) { e.User = "pair" }},
		{"gname", "pair", func(e *api.Entry) { e.Group = "pair" }},
		{"uid", "77", func(e *api.Entry) { e.Meta.Uid = 77 }},
		{"uid", "0", func(e *api.Entry) { e.Meta.Uid = 0 }},
		{"uid", "007", func(e *api.Entry) { e.Meta.Uid = 7 }},
		{"gid", "88", func(e *api.Entry) { e.Meta.Gid = 88 }},
		{"mtime", "9", func(e *api.Entry) { e.Meta.Time = 9 }},
		{"mtime", "9.5", func(e *api.Entry) { e.Meta.Time, e.Meta.Nano = 9, 500000000 }},
		{"mtime", "-9.5", func(e *api.Entry) { e.Meta.Time, e.Meta.Nano = -10, 500000000 }},
		{"mtime", "0", func(e *api.Entry) { e.Meta.Time = 0 }},
		{"mtime", "9223372036854775807.999999999", func(e *api.Entry) { e.Meta.Time, e.Meta.Nano = 1<<63-1, 999999999 }},
		{"size", "9", func(e *api.Entry) {}},
		{"atime", "9", func(e *api.Entry) {}}, // and keys that say nothing here
		{"mode", "0", func(e *api.Entry) {}},
		{"name", "pair", func(e *api.Entry) {}},
		{"Path", "pair", func(e *api.Entry) {}},
		{"GNU.sparse.name", "pair", func(e *api.Entry) {}},
		{"GNU.sparse.realsize", "9", func(e *api.Entry) {}},
	} {
		changed := plain
		x.change(&changed)
		other := "other"
		if x.key != "path" && x.key != "linkpath" && x.key != "uname" && x.key != "gname" {
			other = "5555"
		}
		for _, y := range []struct {
			ahead string
			want  api.Entry
		}{
			{local(t, x.key, x.value), changed},
			{global(t, x.key, x.value), changed},
			{global(t, x.key, other) + local(t, x.key, x.value), changed},
			{local(t, x.key, x.value) + global(t, x.key, other), changed},
			{local(t, x.key, other) + local(t, x.key, x.value), changed},
			{global(t, x.key, other) + global(t, x.key, x.value), changed},
			{global(t, x.key, x.value) + local(t, x.key, ""), plain},
			{global(t, x.key, x.value) + global(t, x.key, ""), plain},
			{local(t, x.key, x.value) + local(t, x.key, ""), plain},
			{local(t, x.key, ""), plain},
			{global(t, x.key, "") + local(t, x.key, x.value), changed},
		} {
			b := y.ahead + put(t, header, "")
			if l, at, why := held(t, b); why != api.OK || at != len(b) || len(l) != 1 || l[0].Entry != y.want {
				t.Errorf("%s %s: %+v %d, not %+v", x.key, x.value, l, why, y.want)
			}
			// A long name or link stands between pairs and header.
			y.want.Name, y.want.Link = fallen(y.want.Name), fallen(y.want.Link)
			for _, b := range []string{longName(t, "long") + longLink(t, "long") + b, y.ahead + longLink(t, "long") + longName(t, "long") + put(t, header, "")} {
				if l, at, why := held(t, b); why != api.OK || at != len(b) || len(l) != 1 || l[0].Entry != y.want {
					t.Errorf("long names and %s %s: %+v %d, not %+v", x.key, x.value, l, why, y.want)
				}
			}
		}
	}
}

// fallen is a text with a long one in the place of the header's.
func fallen(s string) string {
	if s == "header" {
		return "long"
	}
	return s
}

// P16.1: a long name is taken in the place of the name and the prefix.
func TestLongNameAndPrefix(t *testing.T) {
	b := put(t, api.Header{Name: "name", Prefix: "pre/fix"}, "")
	holding(t, b, []string{"pre/fix/name"}, 512, api.OK)
	holding(t, longName(t, "long")+b, []string{"long"}, 1536, api.OK)
	holding(t, local(t, "path", "p")+b, []string{"p"}, 1536, api.OK)
	holding(t, longName(t, "")+b, []string{""}, 1536, api.OK)
}

// P16.1: links of kinds that have none, whoever tells them; devices keep their type.
func TestLinks(t *testing.T) {
	for _, form := range forms {
		for _, kind := range []byte("01234567AVZ") {
			for _, ahead := range []string{"", longLink(t, "long"), local(t, "linkpath", "pair"), global(t, "linkpath", "pair")} {
				want := map[string]string{"": "link", longLink(t, "long"): "long"}[ahead]
				if want == "" {
					want = "pair"
				}
				if kind != '1' && kind != '2' {
					want = ""
				}
				b := ahead + put(t, api.Header{Form: form, Name: "n", Link: "link", Type: kind}, "")
				l := holding(t, b, []string{"n"}, len(b), api.OK)
				device := byte(0)
				if strings.IndexByte("346AVZ", kind) >= 0 {
					device = kind
				}
				if e := l[0].Entry; e.Link != want || e.Type != device || l[0].Type != kind {
					t.Errorf("form %d, type %q: %+v", form, kind, l)
				}
			}
		}
	}
	// A Dir of type 0 has none either.
	if l := holding(t, put(t, api.Header{Name: "d/", Link: "link"}, ""), []string{"d/"}, 512, api.OK); l[0].Entry.Link != "" {
		t.Errorf("%+v", l)
	}
}

// P16.1: an entry's size out of the pairs and out of the header; of files, and of others that have data.
func TestSizes(t *testing.T) {
	for _, kind := range []byte("07AVZ") {
		for _, x := range []struct {
			ahead  string
			header int64
			want   int
		}{
			{"", 0, 0},
			{"", 1, 1},
			{"", 512, 512},
			{"", 513, 513},
			{local(t, "size", "0"), 700, 0},
			{local(t, "size", "700"), 0, 700},
			{local(t, "size", "700"), 1, 700},
			{local(t, "size", "00513"), 1, 513},
			{global(t, "size", "513"), 1, 513},
			{global(t, "size", "1") + local(t, "size", "1024"), 9, 1024},
			{global(t, "size", "1") + local(t, "size", ""), 9, 9},
			{local(t, "size", "3"), 1 << 33, 3},
		} {
			data := strings.Repeat("d", x.want)
			b := x.ahead + record(t, api.Header{Form: api.GNU, Name: "n", Type: kind, Size: x.header}) + filled(data)
			behind := local(t, "size", "1") + file(t, "behind", "b") // as some sizes are global
			l := holding(t, b+behind, []string{"n", "behind"}, len(b+behind), api.OK)
			size := int64(x.want) * int64(btoi(kind == '0' || kind == '7'))
			if y := l[0]; y.Held != int64(x.want) || y.Entry.Size != size || y.Next != len(b) {
				t.Errorf("type %q, %d: %+v", kind, x.want, y)
			}
			if size > 0 {
				if got, why := heldContent(t, b, l[0]); got != data || why != api.OK {
					t.Errorf("type %q, %d: %.20q %d", kind, x.want, got, why)
				}
			}
		}
	}
}

// P16.2: sizes of data that are not there, as great as can be.
func TestSizesTooGreat(t *testing.T) {
	for _, size := range []int64{1, 512, 513, 1 << 31, 1 << 32, 1<<63 - 513, 1<<63 - 512, 1<<63 - 511, 1<<63 - 2, 1<<63 - 1} {
		for _, kind := range []byte("07V") {
			h := put(t, api.Header{Form: api.GNU, Name: "n", Type: kind, Size: size}, "")
			for _, ahead := range []string{"", file(t, "f", "f")} {
				names := []string{"f"}[:btoi(ahead != "")]
				b := ahead + h
				holding(t, b, names, len(b), api.ErrShort)
				if size > 512 {
					holding(t, b+zeros(512), names, len(b)+512, api.ErrShort)
				}
				b = ahead + local(t, "size", fmt.Sprint(size)) + put(t, api.Header{Name: "n", Type: kind}, "")
				holding(t, b, names, len(b), api.ErrShort)
			}
		}
	}
}

// P16.2: numbers of users and groups at 2^32 - 1, and one more: of the pairs and of the header, in each form.
func TestOwners(t *testing.T) {
	const most = math.MaxUint32
	binary := func(n int64) string { // as each form's Decode takes it
		return "\x80\x00\x00" + string([]byte{byte(n >> 32), byte(n >> 24), byte(n >> 16), byte(n >> 8), byte(n)})
	}
	for _, form := range forms {
		plain := put(t, api.Header{Form: form, Name: "n", UID: 1, GID: 2}, "")
		for _, key := range []string{"uid", "gid"} {
			place := map[string]int{"uid": 108, "gid": 116}[key]
			owner := func(l []api.Item) uint32 {
				return map[string]uint32{"uid": l[0].Entry.Meta.Uid, "gid": l[0].Entry.Meta.Gid}[key]
			}
			for _, n := range []int64{0, 1, 1 << 31, most - 1, most} {
				if l := holding(t, with(plain, place, binary(n)), []string{"n"}, 512, api.OK); int64(owner(l)) != n {
					t.Errorf("%s %d: %+v", key, n, l)
				}
				if l := holding(t, local(t, key, fmt.Sprint(n))+plain, []string{"n"}, 1536, api.OK); int64(owner(l)) != n {
					t.Errorf("%s %d: %+v", key, n, l)
				}
			}
			great := with(plain, place, binary(most+1))
			holding(t, great, nil, 0, api.ErrBig)
			holding(t, file(t, "f", "f")+great, []string{"f"}, 1024, api.ErrBig)
			if l := holding(t, local(t, key, "5")+great, []string{"n"}, 1536, api.OK); owner(l) != 5 {
				t.Errorf("%s: %+v", key, l)
			}
			holding(t, local(t, key, "")+great, nil, 1024, api.ErrBig)
			for _, value := range []string{"4294967296", "4294967297", "9223372036854775807", "9223372036854775808", strings.Repeat("9", 99)} {
				holding(t, local(t, key, value)+plain, nil, 1024, api.ErrBig)
				holding(t, global(t, key, value)+plain, nil, 1024, api.ErrBig)
			}
			for _, value := range []string{"x", "-1", "+1", " 1", "1 ", "1.0", "0x1", "\n"} {
				holding(t, local(t, key, value)+plain, nil, 1024, api.ErrDigit)
				holding(t, local(t, key, value)+great, nil, 1024, api.ErrDigit)
			}
		}
	}
}
