package writer_test

import (
	"math/bits"
	"slices"
	"strings"
	"testing"

	"satchel/api"
	"satchel/writer"
)

// pairing holds an entry, and Pairs of it to keys and values in turn.
func pairing(t *testing.T, x api.Packed, s api.Style, said ...string) {
	t.Helper()
	var want []api.Pair
	for pair := range slices.Chunk(said, 2) {
		want = append(want, api.Pair{Key: pair[0], Value: pair[1]})
	}
	if l, why := writer.Pairs(x, s); !slices.Equal(l, want) || why != api.OK {
		t.Errorf("%.200v, %v: %.300q %d, not %.300q", x.Entry, s, l, why, want)
	}
	held(t, x, s)
}

// need is something that needs pairs.
type need struct {
	change func(*api.Packed)
	keys   []string
}

// needs are everything that can be needed; the first two are those of a symbolic link and of a file alone.
func needs() []need {
	return []need{
		{func(x *api.Packed) { x.Entry.Link = strings.Repeat("l", 101) }, []string{"linkpath"}},
		{func(x *api.Packed) { x.Data, x.Entry.Size = []byte("abc"+zeros(700)+"def"), 706 }, []string{"GNU.sparse.major", "GNU.sparse.minor", "GNU.sparse.name", "GNU.sparse.realsize"}},
		{func(x *api.Packed) { x.Entry.Meta.Gid = 2097152 }, []string{"gid"}},
		{func(x *api.Packed) { x.Entry.Group = strings.Repeat("g", 33) }, []string{"gname"}},
		{func(x *api.Packed) { x.Entry.Meta.Time, x.Entry.Meta.Nano = 7, 1 }, []string{"mtime"}},
		{func(x *api.Packed) { x.Entry.Name = strings.Repeat("n", 101) }, []string{"path"}},
		{func(x *api.Packed) { x.Entry.Meta.Uid = 2097152 }, []string{"uid"}},
		{func(x *api.Packed) { x.Entry.User = strings.Repeat("u", 33) }, []string{"uname"}},
	}
}

// P17.3, P17.4, P17.6, P17.7: everything that can be needed, in all choices of it, of links and of files: by their keys, rising, and nothing else; without any there is nothing ahead.
func TestAllNeeds(t *testing.T) {
	all := needs()
	seen := 0
	for choice := range 1 << len(all) {
		if choice&3 == 3 {
			continue
		}
		for _, kind := range []int{api.File, api.Symlink, api.HardLink} {
			if choice&1 != 0 && kind == api.File || choice&2 != 0 && kind != api.File {
				continue
			}
			x := bare(kind)
			var keys []string
			for i, n := range all {
				if choice>>i&1 != 0 {
					n.change(&x)
					keys = append(keys, n.keys...)
				}
			}
			slices.Sort(keys)
			l, why := writer.Pairs(x, api.Style{Form: api.Pax, Holes: 512})
			var got []string
			for _, p := range l {
				got = append(got, p.Key)
			}
			if !slices.Equal(got, keys) || why != api.OK {
				t.Errorf("%b: %q %d, not %q", choice, got, why, keys)
			}
			for _, form := range forms {
				holes := 0
				if form >= api.GNU {
					holes = 512
				}
				b, _ := held(t, x, api.Style{Form: form, Holes: holes})
				if form == api.Pax && strings.HasPrefix(b, "@PaxHeader") != (len(keys) > 0) {
					t.Errorf("%b: %q", choice, b[:100])
				}
				held(t, x, api.Style{Form: form})
			}
			seen += bits.OnesCount(uint(choice))
		}
	}
	if seen < 1000 {
		t.Error(seen)
	}
}

// P17.3: each pair alone, with its value, and the bound of which the table speaks.
func TestEachPair(t *testing.T) {
	pax := api.Style{Form: api.Pax}
	with := func(kind int, change func(*api.Entry)) api.Packed {
		x := bare(kind)
		change(&x.Entry)
		return x
	}
	text := func(n int) string { return strings.Repeat("t", n) }
	pairing(t, bare(api.File), pax)
	pairing(t, with(api.Dir, func(e *api.Entry) { e.Meta.Gid = 2097151 }), pax)
	pairing(t, with(api.Dir, func(e *api.Entry) { e.Meta.Gid = 2097152 }), pax, "gid", "2097152")
	pairing(t, with(api.Dir, func(e *api.Entry) { e.Meta.Gid = 4294967295 }), pax, "gid", "4294967295")
	pairing(t, with(api.Dir, func(e *api.Entry) { e.Meta.Uid = 2097151 }), pax)
	pairing(t, with(api.Dir, func(e *api.Entry) { e.Meta.Uid = 2097152 }), pax, "uid", "2097152")
	pairing(t, with(api.Dir, func(e *api.Entry) { e.Group = text(32) }), pax)
	pairing(t, with(api.Dir, func(e *api.Entry) { e.Group = text(33) }), pax, "gname", text(33))
	pairing(t, with(api.Dir, func(e *api.Entry) { e.User = text(32) }), pax)
	pairing(t, with(api.Dir, func(e *api.Entry) { e.User = text(33) }), pax, "uname", text(33))
	pairing(t, with(api.Symlink, func(e *api.Entry) { e.Link = text(100) }), pax)
	pairing(t, with(api.Symlink, func(e *api.Entry) { e.Link = text(101) }), pax, "linkpath", text(101))
	pairing(t, with(api.HardLink, func(e *api.Entry) { e.Link = text(4096) }), pax, "linkpath", text(4096))
	pairing(t, with(api.Dir, func(e *api.Entry) { e.Meta.Time = 8589934591 }), pax)
	pairing(t, with(api.Dir, func(e *api.Entry) { e.Meta.Time = 8589934592 }), pax, "mtime", "8589934592")
	pairing(t, with(api.Dir, func(e *api.Entry) { e.Meta.Time = -1 }), pax, "mtime", "-1")
	pairing(t, with(api.Dir, func(e *api.Entry) { e.Meta.Nano = 999999999 }), pax, "mtime", "0.999999999")
	pairing(t, with(api.Dir, func(e *api.Entry) { e.Name = text(100) }), pax)
	pairing(t, with(api.Dir, func(e *api.Entry) { e.Name = text(101) }), pax, "path", text(101))
	pairing(t, with(api.Dir, func(e *api.Entry) { e.Name = text(155) + "/" + text(100) }), pax)
	pairing(t, with(api.Dir, func(e *api.Entry) { e.Name = text(155) + "/" + text(101) }), pax, "path", text(155)+"/"+text(101))
	pairing(t, with(api.Dir, func(e *api.Entry) { e.Name = text(156) + "/" + text(100) }), pax, "path", text(156)+"/"+text(100))
	pairing(t, with(api.Device, func(e *api.Entry) { e.Meta.Uid, e.Meta.Time = 1<<31, 1<<33 }), pax, "mtime", "8589934592", "uid", "2147483648")
}

// P17.3: of the other forms there are none, whatever is needed; also where it does not fit.
func TestNoPairs(t *testing.T) {
	x := bare(api.File)
	for _, n := range needs()[1:] {
		n.change(&x)
	}
	for _, s := range []api.Style{{Form: api.V7}, {Form: api.Ustar}, {Form: api.GNU}, {Form: api.GNU, Holes: 1}} {
		pairing(t, x, s)
	}
}

// P17.3, P17.6: values with bytes that a record's form is made of, as long as their records' lengths turn.
func TestStrangeTexts(t *testing.T) {
	for _, odd := range []string{"=", "\n", " ", "\xff", "9 path=x\n", "\x01"} {
		for n := 80; n < 125; n++ {
			x := bare(api.Symlink)
			x.Entry.Name = strings.Repeat("n", n) + odd
			x.Entry.Link = odd + strings.Repeat("/", n)
			x.Entry.User = strings.Repeat(odd, n)
			x.Entry.Group = odd
			for _, form := range forms {
				held(t, x, api.Style{Form: form})
			}
		}
	}
	for n := 960; n < 1010; n++ { // three digits and four
		x := bare(api.HardLink)
		x.Entry.Link = strings.Repeat("l", n)
		held(t, x, api.Style{Form: api.Pax})
	}
}
