package vfs_test

import (
	"math"
	"math/rand"
	"slices"
	"strings"
	"testing"

	"satchel/api"
	"satchel/vfs"
)

// P10.1: New at its bounds, and one beyond.
func TestNew(t *testing.T) {
	for _, nodes := range []int{1, 2, api.MaxNodes - 1, api.MaxNodes} {
		for _, bytes := range []int{0, 1, api.MaxBytes - 1, api.MaxBytes} {
			b := newBoth(t, nodes, bytes)
			want := api.Image{Nodes: nodes, Bytes: bytes, Next: 2, List: []api.Node{{Number: 1, Kind: api.Dir}}}
			if x := b.f.Image(); !sameImage(x, want) {
				t.Error(brief(x))
			}
			if s, why := b.f.Stat(1); s != (api.Stat{Node: 1, Kind: api.Dir, Links: 1}) || why != api.OK {
				t.Error(s, why)
			}
			b.all()
		}
	}
	for _, x := range [][2]int{
		{0, 0}, {-1, 0}, {math.MinInt, 0}, {api.MaxNodes + 1, 0}, {math.MaxInt, 0}, {1, -1}, {1, math.MinInt},
		{1, api.MaxBytes + 1}, {1, math.MaxInt}, {0, -1}, {api.MaxNodes + 1, api.MaxBytes + 1},
	} {
		if f, why := vfs.New(x[0], x[1]); f != nil || why != api.ErrArg {
			t.Errorf("New(%d, %d): %d", x[0], x[1], why)
		}
	}
}

// full is an image with all that one may have; its inodes' numbers have gaps.
func full() api.Image {
	return api.Image{Nodes: 8, Bytes: 10, Next: 13, List: []api.Node{
		{Number: 1, Kind: api.Dir, Meta: api.Meta{Mode: 1}, Entries: []api.Named{{Name: "a", Node: 3}, {Name: "e", Node: 9}, {Name: "f", Node: 4}, {Name: "s", Node: 6}}},
		{Number: 3, Kind: api.Dir, Meta: api.Meta{Uid: 2}, Entries: []api.Named{{Name: "b", Node: 8}, {Name: "h", Node: 4}}},
		{Number: 4, Kind: api.File, Meta: api.Meta{Gid: 3}, Data: []byte("abcd")},
		{Number: 6, Kind: api.Symlink, Meta: api.Meta{Time: 4}, Target: "../x"},
		{Number: 8, Kind: api.Dir, Meta: api.Meta{Nano: 5}, Entries: []api.Named{{Name: "g", Node: 12}, {Name: "s", Node: 6}}},
		{Number: 9, Kind: api.Dir},
		{Number: 12, Kind: api.File, Data: []byte("efghij")},
	}}
}

// at is where the inode of a number stands.
func at(x *api.Image, number int) *api.Node {
	m := model{Image: *x}
	return m.inode(number)
}

// heldImage holds Valid and Load to what is wanted and to the model.
func heldImage(t *testing.T, what string, x api.Image, want bool) {
	t.Helper()
	if got, model := vfs.Valid(x), canImage(x); got != want || model != want {
		t.Errorf("%s: Valid %t, the model %t, not %t: %s", what, got, model, want, brief(x))
	}
	f, why := vfs.Load(x)
	if !want {
		if f != nil || why != api.ErrForm {
			t.Errorf("%s: Load: %d", what, why)
		}
		return
	}
	if f == nil || why != api.OK || !sameImage(f.Image(), x) || len(f.Trace()) != 0 {
		t.Errorf("%s: Load: %d", what, why)
		return
	}
	both{t, f, &model{Image: copied(x)}}.all()
}

type twist struct {
	what string
	do   func(x *api.Image)
}

// of is a twist of one inode.
func of(what string, number int, do func(n *api.Node)) twist {
	return twist{what, func(x *api.Image) { do(at(x, number)) }}
}

// faults are images' single faults, each sentence of 10.1 in its turn.
var faults = []twist{
	{"no room for inodes", func(x *api.Image) { x.Nodes = 0 }},
	{"room below 0 for inodes", func(x *api.Image) { x.Nodes = -1 }},
	{"too much room for inodes", func(x *api.Image) { x.Nodes = api.MaxNodes + 1 }},
	{"room below 0 for bytes", func(x *api.Image) { x.Bytes = -1 }},
	{"too much room for bytes", func(x *api.Image) { x.Bytes = api.MaxBytes + 1 }},
	{"Next 1", func(x *api.Image) { x.Next = 1 }},
	{"Next 0", func(x *api.Image) { x.Next = 0 }},
	{"Next below 0", func(x *api.Image) { x.Next = -1 }},
	{"Next too great", func(x *api.Image) { x.Next = api.MaxNumber + 1 }},
	{"Next is the last number", func(x *api.Image) { x.Next = 12 }},
	{"no inodes", func(x *api.Image) { x.List = nil }},
	{"more inodes than there is room for", func(x *api.Image) { x.Nodes = 6 }},
	{"out of order", func(x *api.Image) { x.List[2], x.List[3] = x.List[3], x.List[2] }},
	{"the root not first", func(x *api.Image) { x.List[0], x.List[1] = x.List[1], x.List[0] }},
	{"turned about", func(x *api.Image) { slices.Reverse(x.List) }},
	{"one twice", func(x *api.Image) { x.List = slices.Insert(x.List, 3, x.List[2]) }},
	{"the last one twice", func(x *api.Image) { x.List = append(x.List, x.List[6]) }},
	{"the root twice", func(x *api.Image) { x.List = slices.Insert(x.List, 1, api.Node{Number: 1, Kind: api.Dir}) }},
	{"no root", func(x *api.Image) { x.List = x.List[1:] }},
	{"the root is 2", func(x *api.Image) { x.List[0].Number = 2 }},
	{"the root is 0", func(x *api.Image) { x.List[0].Number = 0 }},
	{"0 ahead of the root", func(x *api.Image) { x.List = slices.Insert(x.List, 0, api.Node{Kind: api.Dir}) }},
	{"the root is a file", func(x *api.Image) { x.List = []api.Node{{Number: 1, Kind: api.File}} }},
	{"the root is a symbolic link", func(x *api.Image) { x.List = []api.Node{{Number: 1, Kind: api.Symlink, Target: "t"}} }},

	of("a kind 0", 9, func(n *api.Node) { n.Kind = 0 }),
	of("a kind 4", 9, func(n *api.Node) { n.Kind = api.HardLink }),
	of("a kind 5", 9, func(n *api.Node) { n.Kind = api.Device }),
	of("a kind below 0", 9, func(n *api.Node) { n.Kind = -1 }),
	of("the root's kind 4", 1, func(n *api.Node) { n.Kind = 4 }),
	of("a mode too great", 9, func(n *api.Node) { n.Meta.Mode = 4096 }),
	of("a file's mode too great", 4, func(n *api.Node) { n.Meta.Mode = math.MaxUint32 }),
	of("the root's mode too great", 1, func(n *api.Node) { n.Meta.Mode = 4096 }),
	of("Nano below 0", 6, func(n *api.Node) { n.Meta.Nano = -1 }),
	of("Nano too great", 4, func(n *api.Node) { n.Meta.Nano = 1000000000 }),

	of("a directory's data", 9, func(n *api.Node) { n.Data = []byte("x") }),
	of("a symbolic link's data", 6, func(n *api.Node) { n.Data = []byte{0} }),
	of("a directory's target", 9, func(n *api.Node) { n.Target = "x" }),
	of("a file's target", 4, func(n *api.Node) { n.Target = "x" }),
	of("a file's entries", 12, func(n *api.Node) { n.Entries = []api.Named{{Name: "x", Node: 4}} }),
	of("a symbolic link's entries", 6, func(n *api.Node) { n.Entries = []api.Named{{Name: "x", Node: 4}} }),
	of("an empty target", 6, func(n *api.Node) { n.Target = "" }),
	of("a target too long", 6, func(n *api.Node) { n.Target = t4097 }),
	of("a target with 0", 6, func(n *api.Node) { n.Target = "a\x00b" }),
	{"too many bytes in one file", func(x *api.Image) {
		x.Bytes = api.MaxBytes
		at(x, 12).Data = nil
		at(x, 4).Data = make([]byte, api.MaxFile+1)
	}},
	{"too many bytes in all", func(x *api.Image) { x.Bytes = 9 }},
	{"bytes, and no room for any", func(x *api.Image) { x.Bytes = 0 }},
	{"files of which each can be, but not together", func(x *api.Image) {
		x.Bytes = api.MaxBytes
		at(x, 4).Data = make([]byte, api.MaxFile)
	}},

	of("entries out of order", 3, func(n *api.Node) { slices.Reverse(n.Entries) }),
	of("the root's entries out of order", 1, func(n *api.Node) { n.Entries[1], n.Entries[2] = n.Entries[2], n.Entries[1] }),
	of("an entry twice", 3, func(n *api.Node) { n.Entries = append(n.Entries, n.Entries[1]) }),
	of("a name twice", 8, func(n *api.Node) { n.Entries[0].Name = "s" }),
	of("entries to what is not there", 8, func(n *api.Node) { n.Entries = append(n.Entries, api.Named{Name: "x", Node: 5}) }),
	of("an entry to 0", 8, func(n *api.Node) { n.Entries = append(n.Entries, api.Named{Name: "x"}) }),
	of("an entry below 0", 8, func(n *api.Node) { n.Entries = append(n.Entries, api.Named{Name: "x", Node: -1}) }),
	of("an entry to Next", 8, func(n *api.Node) { n.Entries = append(n.Entries, api.Named{Name: "x", Node: 13}) }),
	of("a root that is named by itself", 1, func(n *api.Node) { n.Entries = append(n.Entries, api.Named{Name: "x", Node: 1}) }),
	of("a root that is named", 9, func(n *api.Node) { n.Entries = []api.Named{{Name: "x", Node: 1}} }),
	of("a directory that is named twice", 9, func(n *api.Node) { n.Entries = []api.Named{{Name: "x", Node: 8}} }),
	of("a directory that is named twice in one", 1, func(n *api.Node) { n.Entries = append(n.Entries, api.Named{Name: "x", Node: 3}) }),
	of("a directory that names itself, too", 3, func(n *api.Node) { n.Entries = append(n.Entries, api.Named{Name: "x", Node: 3}) }),
	of("a directory that names what it lies in, too", 8, func(n *api.Node) { n.Entries = append(n.Entries, api.Named{Name: "x", Node: 3}) }),
	of("a directory that is not named", 1, func(n *api.Node) { n.Entries = slices.Delete(n.Entries, 1, 2) }),
	of("a file that is not named", 8, func(n *api.Node) { n.Entries = n.Entries[1:] }),
	{"a symbolic link that is not named", func(x *api.Image) {
		at(x, 1).Entries = at(x, 1).Entries[:3]
		at(x, 8).Entries = at(x, 8).Entries[:1]
	}},
	{"a directory that only itself names", func(x *api.Image) {
		at(x, 1).Entries = slices.Delete(at(x, 1).Entries, 1, 2)
		at(x, 9).Entries = []api.Named{{Name: "x", Node: 9}}
	}},
	{"a circle of directories that the root does not reach", func(x *api.Image) {
		at(x, 1).Entries = at(x, 1).Entries[1:]
		at(x, 8).Entries = append(at(x, 8).Entries, api.Named{Name: "x", Node: 3})
	}},
	{"a circle of directories beside the root, and files in it", func(x *api.Image) {
		x.List = []api.Node{
			{Number: 1, Kind: api.Dir},
			{Number: 2, Kind: api.Dir, Entries: []api.Named{{Name: "a", Node: 3}, {Name: "b", Node: 4}}},
			{Number: 3, Kind: api.Dir, Entries: []api.Named{{Name: "a", Node: 2}, {Name: "b", Node: 4}}},
			{Number: 4, Kind: api.File},
		}
	}},
}

// bounds are images that can just be.
var bounds = []twist{
	{"as it is", func(*api.Image) {}},
	{"the root alone", func(x *api.Image) { *x = api.Image{Nodes: 1, Next: 2, List: []api.Node{{Number: 1, Kind: api.Dir}}} }},
	{"just room for the inodes", func(x *api.Image) { x.Nodes = 7 }},
	{"most room", func(x *api.Image) { x.Nodes, x.Bytes = api.MaxNodes, api.MaxBytes }},
	{"Next one above the last", func(x *api.Image) { x.Next = 13 }},
	{"Next the greatest", func(x *api.Image) { x.Next = api.MaxNumber }},
	{"the last number the greatest", func(x *api.Image) {
		x.Next = api.MaxNumber
		at(x, 12).Number = api.MaxNumber - 1
		at(x, 8).Entries[0].Node = api.MaxNumber - 1
	}},
	{"no bytes and no room for any", func(x *api.Image) { x.Bytes, at(x, 4).Data, at(x, 12).Data = 0, nil, []byte{} }},
	{"a file of the most bytes", func(x *api.Image) {
		x.Bytes, at(x, 12).Data, at(x, 4).Data = api.MaxBytes, nil, make([]byte, api.MaxFile)
	}},
	of("a mode and Nano at their bounds", 1, func(n *api.Node) { n.Meta.Mode, n.Meta.Nano = 4095, 999999999 }),
	of("a time below 0", 6, func(n *api.Node) { n.Meta.Time = math.MinInt64 }),
	of("a target of one byte", 6, func(n *api.Node) { n.Target = "/" }),
	of("a target of the most bytes", 6, func(n *api.Node) { n.Target = t4096 }),
	of("empty lists", 9, func(n *api.Node) { n.Data, n.Entries = []byte{}, []api.Named{} }),
	of("a file's empty entries", 4, func(n *api.Node) { n.Entries = []api.Named{} }),
	of("many entries of one file", 9, func(n *api.Node) {
		for i := range 100 {
			n.Entries = append(n.Entries, api.Named{Name: strings.Repeat("x", i+1), Node: 4})
		}
	}),
	{"a directory whose number is below that of what it lies in", func(x *api.Image) {
		at(x, 9).Entries = at(x, 1).Entries[:1]
		at(x, 1).Entries = at(x, 1).Entries[1:]
	}},
}

// P10.1, 10.1: each single fault; what has none.
func TestImages(t *testing.T) {
	for _, one := range bounds {
		x := full()
		one.do(&x)
		heldImage(t, one.what, x, true)
	}
	for _, one := range faults {
		x := full()
		one.do(&x)
		heldImage(t, one.what, x, false)
	}
	heldImage(t, "nothing at all", api.Image{}, false)
}

// P10.1: a file system that is loaded goes on where the image stands: numbers, room, links.
func TestLoadGoesOn(t *testing.T) {
	b := loaded(t, full())
	if n := b.ok(call{what: mkdir, dir: 9, name: "x"}); n != 13 {
		t.Error(n)
	}
	b.whys(call{what: create, dir: 1, name: "x"}, api.ErrSpace)
	b.whys(call{what: write, node: 12, at: 6, data: "x"}, api.ErrSpace)
	b.ok(call{what: unlink, dir: 1, name: "f"})
	b.ok(call{what: unlink, dir: 3, name: "h"})
	b.ok(call{what: write, node: 12, at: 9, data: "x"})
	if n := b.ok(call{what: create, dir: 1, name: "x"}); n != 14 {
		t.Error(n)
	}
	b.all()
}

// 10.1: each name that can't be, as an entry of an image; each that can.
func TestImageNames(t *testing.T) {
	image := func(name string) api.Image {
		return api.Image{Nodes: 2, Next: 3, List: []api.Node{{Number: 1, Kind: 1, Entries: []api.Named{{Name: name, Node: 2}}}, {Number: 2, Kind: 2}}}
	}
	for _, name := range noNames {
		heldImage(t, name, image(name), false)
	}
	for _, name := range goNames {
		heldImage(t, name, image(name), true)
	}
}

// P10.1: all images of up to three inodes, of all kinds, with up to two entries each, wherever they lead.
func TestSmallImages(t *testing.T) {
	t.Parallel()
	var entries [][]api.Named
	for a := range 5 {
		for b := range 5 {
			var l []api.Named
			if a > 0 {
				l = append(l, api.Named{Name: "a", Node: a})
			}
			if b > 0 {
				l = append(l, api.Named{Name: "b", Node: b})
			}
			entries = append(entries, l)
		}
	}
	can := 0
	var grow func(x api.Image, n int)
	grow = func(x api.Image, n int) {
		want := canImage(x)
		if vfs.Valid(x) != want {
			t.Fatalf("Valid(%s): not %t", brief(x), want)
		}
		if want {
			can++
		}
		if n > 3 {
			return
		}
		for kind := 1; kind <= 3; kind++ {
			for _, l := range entries {
				node := api.Node{Number: n, Kind: kind, Entries: l}
				if kind == api.Symlink {
					node.Target = "t"
				}
				y := x
				y.List = append(slices.Clone(x.List), node)
				grow(y, n+1)
			}
		}
	}
	grow(api.Image{Nodes: 3, Next: 4}, 1)
	if can < 50 {
		t.Errorf("only %d of them can be", can)
	}
}

// P10.1: images by chance, some of which can be.
func TestImagesByChance(t *testing.T) {
	t.Parallel()
	r := rand.New(rand.NewSource(10))
	can := 0
	for range 30000 {
		x := full()
		for range 1 + r.Intn(3) {
			disturb(r, &x)
		}
		want := canImage(x)
		if vfs.Valid(x) != want {
			t.Fatalf("Valid(%s): not %t", brief(x), want)
		}
		f, why := vfs.Load(x)
		if want != (why == api.OK) || want != (f != nil) || want && !sameImage(f.Image(), x) {
			t.Fatalf("Load(%s): %d", brief(x), why)
		}
		if want {
			can++
		}
	}
	if can < 1000 {
		t.Errorf("only %d of them can be", can)
	}
}

// disturb changes something by chance.
func disturb(r *rand.Rand, x *api.Image) {
	if len(x.List) == 0 {
		return
	}
	i := r.Intn(len(x.List))
	n := &x.List[i]
	switch r.Intn(9) {
	case 0:
		n.Kind = 1 + r.Intn(3)
	case 1:
		n.Number += r.Intn(3) - 1
	case 2:
		x.List = slices.Delete(x.List, i, i+1)
	case 3:
		x.Nodes, x.Bytes = 5+r.Intn(6), 8+r.Intn(5)
	case 4:
		n.Data = append(slices.Clone(n.Data), "xyz"[:r.Intn(4)]...)
	case 5:
		n.Target = []string{"", "t"}[r.Intn(2)]
	default:
		e := api.Named{Name: string(rune('a' + r.Intn(20))), Node: r.Intn(14)}
		if j := r.Intn(len(n.Entries) + 1); r.Intn(2) == 0 && j < len(n.Entries) {
			n.Entries[j].Node = e.Node
		} else if r.Intn(2) == 0 && j < len(n.Entries) {
			n.Entries = slices.Delete(n.Entries, j, j+1)
		} else {
			n.Entries = slices.Insert(n.Entries, j, e)
		}
	}
}
