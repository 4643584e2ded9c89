package apply_test

import (
	"fmt"
	"math"
	"strings"
	"testing"

	"satchel/api"
	"satchel/apply"
	"satchel/vfs"
)

// deep is a name of so many components, long one of so many bytes, wide one of a component of so many.
func deep(n int) string { return strings.Repeat("c/", n-1) + "c" }

func long(n int) string { return strings.Repeat(wide(99)+"/", n/100+1)[:n] }

func wide(n int) string { return strings.Repeat("w", n) }

// refused are names that path.Split refuses, and why.
var refused = []struct {
	name string
	why  api.Errno
}{
	{"", api.ErrEmpty},
	{".", api.ErrEmpty},
	{".//./", api.ErrEmpty},
	{"/", api.ErrAbsolute},
	{"/a", api.ErrAbsolute},
	{"..", api.ErrDots},
	{"../a", api.ErrDots},
	{"a/..", api.ErrDots},
	{"a/../b", api.ErrDots},
	{"\x00", api.ErrZero},
	{"a\x00b", api.ErrZero},
	{wide(256), api.ErrName},
	{"a/" + wide(256) + "/b", api.ErrName},
	{deep(257), api.ErrDeep},
	{long(4097), api.ErrLong},
	{"/../\x00" + long(4097), api.ErrLong},
	{"/../\x00", api.ErrZero},
	{"/../" + wide(256), api.ErrAbsolute},
	{"../" + wide(256), api.ErrDots},
	{wide(256) + "/" + deep(257), api.ErrName},
}

// taken are names that path.Split takes.
var taken = []string{"a", "a/b", "./a//b/.", "..a", "a..", "...", " ", "\xff\xfe", wide(255), wide(255) + "/" + wide(255), deep(256), long(4096)}

func file(name string, size int) api.Entry {
	return api.Entry{Name: name, Kind: api.File, Size: int64(size)}
}

func directory(name string) api.Entry { return api.Entry{Name: name, Kind: api.Dir} }

func symlink(name, target string) api.Entry {
	return api.Entry{Name: name, Kind: api.Symlink, Link: target}
}

func hard(name, link string) api.Entry {
	return api.Entry{Name: name, Kind: api.HardLink, Link: link}
}

// checks holds Check to an error and to the model, and, if it is one, Apply to the same: nothing is done.
func checks(t *testing.T, e api.Entry, data []byte, p api.Policy, want api.Errno) {
	t.Helper()
	if why := apply.Check(e, data, p); why != want || why != modelCheck(e, data, p) {
		t.Errorf("Check(%s, %.20q, %+v): %d, not %d; the model: %d", brief(e), data, p, why, want, modelCheck(e, data, p))
	}
	if want == api.OK {
		return
	}
	h := held{t, example(t)}
	h.unchanged("what Check refuses", func() {
		for _, top := range []int{1, 2, 3, 4, 99} { // ahead of what is wrong with top
			h.whys(top, e, data, p, want)
		}
	})
}

func TestModelNames(t *testing.T) {
	for _, x := range refused {
		if _, why := modelSplit(x.name); why != x.why {
			t.Errorf("%.20q: %d", x.name, why)
		}
	}
}

// P19.1: There.
func TestCheckThere(t *testing.T) {
	for _, there := range []int{math.MinInt, -3, -2, -1, 3, 4, 256, 1 << 32, math.MaxInt} {
		checks(t, directory("a"), nil, api.Policy{There: there}, api.ErrArg)
	}
	for _, there := range []int{api.Keep, api.Replace, api.Skip} {
		checks(t, directory("a"), nil, api.Policy{There: there}, api.OK)
	}
}

// P19.1: names, and of hard links the other ones.
func TestCheckNames(t *testing.T) {
	for _, x := range refused {
		for _, e := range []api.Entry{directory(x.name), file(x.name, 0), symlink(x.name, "a"), hard(x.name, "a"), hard("a", x.name)} {
			checks(t, e, nil, api.Policy{}, x.why)
		}
		// Of anything else the link plays no part.
		for _, e := range []api.Entry{directory("a"), file("a", 0)} {
			e.Link = x.name
			checks(t, e, nil, api.Policy{}, api.OK)
		}
	}
	for _, name := range taken {
		for _, e := range []api.Entry{directory(name), file(name, 0), symlink(name, "a"), hard(name, "a"), hard("a", name), hard(name, name)} {
			checks(t, e, nil, api.Policy{}, api.OK)
		}
	}
}

// P19.1: kinds.
func TestCheckKinds(t *testing.T) {
	for _, kind := range []int{math.MinInt, -2, -1, 0, api.Device, 6, 7, 257, 1<<32 + 1, math.MaxInt} {
		for _, letter := range []byte{0, '3', '0'} {
			checks(t, api.Entry{Name: "a", Kind: kind, Link: "b", Type: letter}, nil, api.Policy{Leaving: true}, api.ErrOdd)
		}
	}
}

// P19.1: metas, with a mask that takes bits out and without.
func TestCheckMetas(t *testing.T) {
	const most = math.MaxUint32
	for _, x := range []struct {
		mode, mask uint32
		why        api.Errno
	}{
		{0, 0, api.OK},
		{4095, 0, api.OK},
		{4096, 0, api.ErrArg},
		{8191, 0, api.ErrArg},
		{1 << 31, 0, api.ErrArg},
		{most, 0, api.ErrArg},
		{4096, 4096, api.OK},
		{8191, 4096, api.OK},
		{4096, 4095, api.ErrArg},
		{4096, most - 4096, api.ErrArg},
		{4095, most, api.OK},
		{most, most, api.OK},
		{most, most - 4095, api.OK},
		{most, most - 8191, api.ErrArg},
		{most, most - 4095 - 1<<31, api.ErrArg},
		{1<<31 + 5, 1 << 31, api.OK},
		{1<<31 + 5, 1 << 30, api.ErrArg},
		{0, most, api.OK},
		{0, 4096, api.OK}, // what is not set is not set by that
	} {
		for _, e := range []api.Entry{directory("a"), file("a", 0), symlink("a", "b"), hard("a", "b")} {
			e.Meta.Mode = x.mode
			checks(t, e, nil, api.Policy{Mask: x.mask}, x.why)
		}
	}
	for nano, want := range map[int32]api.Errno{
		0: api.OK, 1: api.OK, 999999999: api.OK, 1000000000: api.ErrArg, math.MaxInt32: api.ErrArg, -1: api.ErrArg, math.MinInt32: api.ErrArg,
	} {
		for _, e := range []api.Entry{directory("a"), file("a", 0), symlink("a", "b"), hard("a", "b")} {
			e.Meta.Nano = nano
			checks(t, e, nil, api.Policy{Mask: most}, want)
		}
	}
	for _, m := range []api.Meta{{Time: math.MinInt64}, {Time: math.MaxInt64}, {Time: -1}, {Uid: most, Gid: most}} {
		e := directory("a")
		e.Meta = m
		checks(t, e, nil, api.Policy{}, api.OK)
	}
}

// P19.1: sizes that are the data's, and sizes that are not; of anything but a file neither plays a part.
func TestCheckSizes(t *testing.T) {
	for _, n := range []int{0, 1, 3, 512} {
		data := make([]byte, n, n+9)
		for _, size := range []int64{0, 1, 3, 4, 512, 513, -1, -3, 1 << 32, 1<<32 + 3, math.MaxInt64, math.MinInt64, math.MinInt64 + 3} {
			e := file("a", 0)
			e.Size = size
			want := api.ErrBytes
			if size == int64(n) {
				want = api.OK
			}
			checks(t, e, data, api.Policy{}, want)
			for _, e := range []api.Entry{directory("a"), symlink("a", "b"), hard("a", "b")} {
				e.Size = size
				checks(t, e, data, api.Policy{}, api.OK)
			}
		}
	}
	checks(t, file("a", 0), []byte{}, api.Policy{}, api.OK)
	checks(t, file("a", api.MaxFile+1), make([]byte, api.MaxFile+1), api.Policy{}, api.OK) // that is the file system's to say
}

// P19.1: targets that can't be, ahead of those that lead out.
func TestCheckTargets(t *testing.T) {
	for _, target := range []string{"", "\x00", "a\x00", "a\x00b", "/\x00", "../\x00", wide(4097), "/" + wide(4096)} {
		for _, leaving := range []bool{false, true} {
			checks(t, symlink("a", target), nil, api.Policy{Leaving: leaving}, api.ErrTarget)
		}
	}
	for _, target := range []string{"a", ".", "a//", wide(4096), "a/../b", " ", "\xff", "\n"} {
		for _, leaving := range []bool{false, true} {
			checks(t, symlink("a", target), nil, api.Policy{Leaving: leaving}, api.OK)
		}
	}
}

// P19.1: links that lead out, from each depth, with Leaving and without.
func TestCheckLeaving(t *testing.T) {
	dirs := []int{0, 1, 2, 3, 100, 255}
	for _, depth := range dirs {
		names := []string{strings.Repeat("d/", depth) + "l"}
		if depth > 0 {
			names = append(names, strings.Repeat("./d//", depth)+"l/.", "./"+strings.Repeat("d/./", depth)+"l//")
		}
		up := func(n int) string { return strings.Repeat("../", n) }
		for target, leaves := range map[string]bool{
			"a": false, ".": false, "..": depth < 1, "../..": depth < 2, "../../..": depth < 3,
			"/": true, "/a": true, "//": true, "a/..": false, "a/../..": depth < 1, "./..": depth < 1, "..//.": depth < 1,
			up(depth) + "x": false, up(depth+1) + "x": true, up(depth) + "x/../y": false, up(depth) + "x/../../y": true,
			"a/b/c/" + up(depth+3): false, "a/b/c/" + up(depth+4): true, up(depth+1) + strings.Repeat("d/", 400): true,
			"a/": false, "...": false, "..a/..": false, "a/b": false,
		} {
			for _, name := range names {
				want := api.OK
				if leaves {
					want = api.ErrUnsafe
				}
				checks(t, symlink(name, target), nil, api.Policy{}, want)
				checks(t, symlink(name, target), nil, api.Policy{Leaving: true}, api.OK)
			}
		}
	}
}

// P19.1: all faults at once, in all choices: the first one counts. The files have one byte.
func TestCheckOrder(t *testing.T) {
	t.Parallel()
	names := []string{"", "a", "a/l", "/a", "..", "\x00", wide(256), deep(257), long(4097)}
	links := []string{"", "a", "..", "../..", "/a", "\x00", "/\x00", wide(256), deep(257), wide(4097)}
	metas := []api.Meta{{}, {Mode: 4096}, {Nano: -1}, {Mode: 4097, Nano: 1e9}}
	seen := make(map[api.Errno]int)
	for _, there := range []int{-1, 0, 1, 2, 3} {
		for _, mask := range []uint32{0, 4096} {
			for _, leaving := range []bool{false, true} {
				p := api.Policy{There: there, Mask: mask, Leaving: leaving, Parents: leaving}
				for kind := range 7 {
					for _, name := range names {
						for _, link := range links {
							for _, m := range metas {
								for size := range int64(3) {
									e := api.Entry{Name: name, Kind: kind, Link: link, Meta: m, Size: size}
									want := modelCheck(e, []byte("x"), p)
									if why := apply.Check(e, []byte("x"), p); why != want {
										t.Fatalf("Check(%s, %+v): %d, not %d", brief(e), p, why, want)
									}
									seen[want]++
								}
							}
						}
					}
				}
			}
		}
	}
	for _, why := range []api.Errno{
		api.OK, api.ErrArg, api.ErrLong, api.ErrEmpty, api.ErrAbsolute, api.ErrDots, api.ErrZero, api.ErrName, api.ErrDeep,
		api.ErrOdd, api.ErrBytes, api.ErrTarget, api.ErrUnsafe,
	} {
		if seen[why] == 0 {
			t.Errorf("never %d", why)
		}
	}
}

// P19.1: two faults at once, one by one.
func TestCheckTwo(t *testing.T) {
	bad := api.Meta{Mode: 4096}
	none := api.Policy{There: 3}
	for i, x := range []struct {
		e    api.Entry
		p    api.Policy
		want api.Errno
	}{
		{directory(".."), none, api.ErrArg},
		{api.Entry{Name: "a", Kind: api.Device}, none, api.ErrArg},
		{symlink("a", "/"), none, api.ErrArg},
		{api.Entry{Name: "..", Kind: api.Device}, api.Policy{}, api.ErrDots},
		{api.Entry{Name: "/a", Kind: api.Dir, Meta: bad}, api.Policy{}, api.ErrAbsolute},
		{file("", 7), api.Policy{}, api.ErrEmpty},
		{symlink(deep(257), ""), api.Policy{}, api.ErrDeep},
		{symlink(wide(256), "/"), api.Policy{}, api.ErrName},
		{hard("\x00", ".."), api.Policy{}, api.ErrZero},
		{api.Entry{Name: "a", Kind: api.Device, Meta: bad}, api.Policy{}, api.ErrOdd},
		{api.Entry{Name: "a", Kind: api.Device, Meta: api.Meta{Nano: -1}, Size: 7, Link: "/"}, api.Policy{}, api.ErrOdd},
		{api.Entry{Name: "a", Kind: api.File, Meta: bad, Size: 7}, api.Policy{}, api.ErrArg},
		{api.Entry{Name: "a", Kind: api.Symlink, Meta: bad}, api.Policy{}, api.ErrArg},
		{api.Entry{Name: "a", Kind: api.Symlink, Meta: bad, Link: "/"}, api.Policy{}, api.ErrArg},
		{api.Entry{Name: "a", Kind: api.HardLink, Meta: bad, Link: "/"}, api.Policy{}, api.ErrArg},
		{api.Entry{Name: "a", Kind: api.File, Meta: bad, Size: 7}, api.Policy{Mask: 4096}, api.ErrBytes},
		{api.Entry{Name: "a", Kind: api.Symlink, Meta: bad, Link: "/"}, api.Policy{Mask: 4096}, api.ErrUnsafe},
		{symlink("a", "/\x00"), api.Policy{}, api.ErrTarget},
		{symlink("a", "/"+wide(4096)), api.Policy{}, api.ErrTarget},
	} {
		t.Run(fmt.Sprint(i), func(t *testing.T) { checks(t, x.e, nil, x.p, x.want) })
	}
}

// P19.1: what a file system has plays no part in Check, and what Check takes the file system takes, too, if it has room.
func TestCheckIsEnough(t *testing.T) {
	for _, name := range taken {
		for _, e := range []api.Entry{directory(name), file(name, 2), symlink(name, "a"), symlink(name, wide(4096))} {
			for _, m := range []api.Meta{{}, {Mode: 4095, Uid: math.MaxUint32, Gid: math.MaxUint32, Time: math.MinInt64, Nano: 999999999}, {Mode: math.MaxUint32}} {
				e.Meta = m
				f, _ := vfs.New(api.MaxNodes, 2)
				p := api.Policy{Parents: true, Mask: math.MaxUint32 - 4095}
				parts, _ := modelSplit(name)
				n := len(parts)
				held{t, f}.ok(1, e, []byte("ab"), p, api.Done{Node: n + 1, Made: n - 1})
			}
		}
	}
}
