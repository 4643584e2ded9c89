package vfs_test

import (
	"math"
	"math/rand"
	"strings"
	"testing"

	"satchel/api"
	"satchel/vfs"
)

func one[T any](r *rand.Rand, list ...T) T { return list[r.Intn(len(list))] }

// someCall is a call by chance that mostly can be done on what is there.
func someCall(r *rand.Rand, m *model) call {
	number := func() int {
		if r.Intn(12) == 0 {
			return one(r, 0, -1, m.Next, m.Next-1, math.MinInt)
		}
		return m.List[r.Intn(len(m.List))].Number
	}
	dir := func() int {
		for range 10 {
			if n := number(); m.kind(n) == api.Dir {
				return n
			}
		}
		return number()
	}
	name := func() string {
		if r.Intn(25) == 0 {
			return one(r, noNames...)
		}
		return one(r, "a", "b", "c", "d", "e", "\xff", a255)
	}
	c := call{dir: dir(), name: name(), to: dir(), other: name(), node: number(), at: r.Intn(9), n: r.Intn(9)}
	if r.Intn(20) == 0 {
		c.at = one(r, -1, api.MaxFile, api.MaxFile+1, math.MaxInt)
	}
	if r.Intn(20) == 0 {
		c.n = one(r, -1, api.MaxFile, api.MaxFile+1, math.MaxInt)
	}
	c.data = strings.Repeat(one(r, "x", "y", "\x00"), r.Intn(7))
	c.target = one(r, "a", "..", "/etc", "a/b", t4096)
	if r.Intn(20) == 0 {
		c.target = one(r, "", "\x00", t4097)
	}
	c.meta = api.Meta{Mode: uint32(r.Intn(4097)), Uid: r.Uint32(), Gid: r.Uint32(), Time: int64(r.Uint64()), Nano: int32(r.Intn(3))}
	if r.Intn(20) == 0 {
		c.meta.Nano = one[int32](r, -1, 999999999, 1000000000)
	}
	c.what = one(r, lookup, up, list, stat, read, readlink, mkdir, mkdir, mkdir, create, create, symlink, link, link,
		write, write, resize, change, unlink, unlink, rmdir, rmdir, rename, rename, rename)
	return c
}

// P10.1 to P10.9, P10.11, P10.12: calls by chance, each held to the model, which changes nothing but what a promise names.
// P10.14: the trace, done again on the beginning's image. P10.15: now and then it goes on as what was loaded of its image.
func TestChance(t *testing.T) {
	t.Parallel()
	seen := make(map[string]int)
	for seed := range int64(150) {
		r := rand.New(rand.NewSource(seed))
		b := newBoth(t, 1+r.Intn(14), r.Intn(25))
		var begun api.Image
		var done []call
		restart := func(f *vfs.FS) {
			b.f, b.m.trace = f, nil
			begun, done = f.Image(), nil
		}
		restart(b.f)
		for range 300 {
			switch r.Intn(120) {
			case 0:
				f, why := vfs.Load(b.f.Image())
				if why != api.OK {
					t.Fatal(why)
				}
				restart(f)
			case 1:
				restart(b.f.Clone())
			case 2:
				b.f.Forget()
				restart(b.f)
			}
			c := someCall(r, b.m)
			a := b.do(c)
			seen[c.what+" "+a.why.Error()]++
			if ops[c.what] != 0 && a.why == api.OK {
				done = append(done, c)
			}
		}
		b.all()
		f, _ := vfs.Load(begun)
		again(t, f, b.f.Trace(), done)
		if !sameImage(f.Image(), b.f.Image()) {
			t.Fatalf("done again: %s, not %s", brief(f.Image()), brief(b.f.Image()))
		}
	}
	for what := range ops {
		if seen[what+" "+api.OK.Error()] == 0 {
			t.Errorf("no %s was done", what)
		}
	}
	for _, why := range order {
		any := 0
		for what := range ops {
			any += seen[what+" "+why.Error()]
		}
		if any == 0 {
			t.Errorf("no call was refused with %d", why)
		}
	}
}

// P10.15: what was loaded of an image goes on as the file system does that it was made of.
func TestGoesOn(t *testing.T) {
	t.Parallel()
	for seed := range int64(60) {
		r := rand.New(rand.NewSource(1000 + seed))
		b := newBoth(t, 10, 20)
		for range 60 {
			b.only(someCall(r, b.m))
		}
		f, why := vfs.Load(b.f.Image())
		if why != api.OK {
			t.Fatal(why)
		}
		g := b.f.Clone()
		for range 60 {
			c := someCall(r, b.m)
			want := b.only(c)
			if x, y := c.do(f), c.do(g); x != want || y != want {
				t.Fatalf("%s: %s and %s, not %s", brief(c), brief(x), brief(y), brief(want))
			}
		}
		if x := b.f.Image(); !sameImage(f.Image(), x) || !sameImage(g.Image(), x) {
			t.Fatalf("%s", brief(x))
		}
	}
}

// P10.13: with other targets of the same length all calls answer the same, but for the targets themselves.
func TestNothingIsFollowed(t *testing.T) {
	t.Parallel()
	mirror := func(target string) string { // leads elsewhere
		return strings.Map(func(c rune) rune {
			switch c {
			case 0:
				return 0
			case '.':
				return 'a'
			case 'a':
				return '/'
			case '/':
				return '.'
			}
			return 'b'
		}, target)
	}
	for seed := range int64(100) {
		r := rand.New(rand.NewSource(2000 + seed))
		b := newBoth(t, 12, 20)
		f, _ := vfs.New(12, 20)
		for range 200 {
			c := someCall(r, b.m)
			want := b.only(c)
			c.target = mirror(c.target)
			got := c.do(f)
			if c.what == readlink {
				want.text = mirror(want.text)
			}
			if got != want {
				t.Fatalf("%s: %s, not %s", brief(c), brief(got), brief(want))
			}
		}
		x := b.f.Image()
		for i := range x.List {
			if x.List[i].Kind == api.Symlink {
				x.List[i].Target = mirror(x.List[i].Target)
			}
		}
		if !sameImage(f.Image(), x) {
			t.Fatalf("%s, not %s", brief(f.Image()), brief(x))
		}
	}
}

// states are all images that so many calls come to, each once, with names and bytes of a few sorts.
func states(t *testing.T, nodes, bytes, steps int) []api.Image {
	t.Helper()
	first := newBoth(t, nodes, bytes).m.Image
	known := map[string]bool{fullText(first): true}
	all := []api.Image{first}
	from := 0
	for range steps {
		behind := len(all)
		for _, x := range all[from:behind] {
			for _, c := range smallCalls(x.Next, true) {
				m := &model{Image: copied(x)}
				if m.do(c).why != api.OK {
					continue
				}
				if key := fullText(m.Image); !known[key] {
					known[key] = true
					all = append(all, m.Image)
				}
			}
		}
		from = behind
	}
	return all
}

// fullText is an image as a text.
func fullText(x api.Image) string {
	var s strings.Builder
	put := func(n int) { s.WriteString(string(rune(n)) + ";") }
	put(x.Next)
	for _, n := range x.List {
		put(n.Number)
		put(n.Kind)
		put(int(n.Meta.Mode))
		s.WriteString(string(n.Data) + ";" + n.Target + ";" + told(n.Entries))
	}
	return s.String()
}

// smallCalls are all calls with numbers up to some, two names, and a few places and sizes.
func smallCalls(numbers int, mutating bool) []call {
	var all []call
	names := []string{"a", "b"}
	add := func(whats []string, c call) {
		for _, what := range whats {
			if c.what = what; !mutating || ops[what] != 0 {
				all = append(all, c)
			}
		}
	}
	for dir := 1; dir <= numbers; dir++ {
		add([]string{up, list, stat, readlink}, call{dir: dir, node: dir})
		add([]string{change}, call{node: dir, meta: api.Meta{Mode: 5}})
		for n := range 3 {
			add([]string{resize}, call{node: dir, n: n})
			add([]string{write}, call{node: dir, at: n, data: "x"})
			add([]string{read}, call{node: dir, at: n, n: 1})
		}
		for _, name := range names {
			add([]string{lookup, mkdir, create, symlink, unlink, rmdir}, call{dir: dir, name: name, target: "a"})
			for node := 1; node <= numbers; node++ {
				add([]string{link}, call{dir: dir, name: name, node: node})
				for _, other := range names {
					add([]string{rename}, call{dir: dir, name: name, to: node, other: other})
				}
			}
		}
	}
	return all
}

// P10.1 to P10.9, P10.11, P10.12: all calls of a few sorts on all file systems that a few calls come to.
func TestSmall(t *testing.T) {
	t.Parallel()
	all := states(t, 4, 2, 4)
	if len(all) < 1000 {
		t.Errorf("only %d file systems", len(all))
	}
	for _, x := range all {
		f, why := vfs.Load(x)
		if why != api.OK {
			t.Fatalf("Load(%s): %d", brief(x), why)
		}
		m := &model{Image: x}
		for _, c := range smallCalls(x.Next, false) {
			b := both{t, f, m}
			if m.refused(c) == api.OK && ops[c.what] != 0 {
				b = both{t, f.Clone(), m.clone()}
			}
			b.only(c)
			b.held(c)
		}
	}
}
