package extract_test

import (
	"fmt"
	"strings"
	"testing"

	"satchel/api"
	"satchel/extract"
	"satchel/vfs"
)

const tooGreat = api.MaxBlock + 1 // bytes of a file whose contents can't be told

// named is a name, and what is wrong with it: by itself, and in the file system example.
type named struct {
	name  string
	split api.Errno
	depth int
	place api.Errno
}

// thing is an entry of any name, and what is wrong with all else of it.
type thing struct {
	of               func(name string) string
	size             int64 // of a file
	content, own, fs api.Errno
	dir, nodes       bool // it is a directory; it needs an inode
}

// things are entries of all kinds with all faults.
var things = []thing{
	{of: func(name string) string { return file(name, "four") }, size: 4, nodes: true},
	{of: func(name string) string { return file(name, "") }, nodes: true},
	{of: func(name string) string { return dir(name, 0) }, dir: true, nodes: true},
	{of: func(name string) string {
		return oldHoles(name, tooGreat, []api.Range{{From: 0, To: 2}}, "ab")
	}, size: tooGreat, content: api.ErrLong, nodes: true},
	{of: device, own: api.ErrOdd},
	{of: func(name string) string { return symlink(name, "") }, own: api.ErrTarget},
	{of: func(name string) string { return symlink(name, "/") }, own: api.ErrUnsafe},
	{of: func(name string) string { return symlink(name, "x") }, nodes: true},
	{of: func(name string) string { return hard(name, "../f") }, own: api.ErrDots},
	{of: func(name string) string { return hard(name, "") }, own: api.ErrEmpty},
	{of: func(name string) string { return hard(name, "/f") }, own: api.ErrAbsolute},
	{of: func(name string) string { return hard(name, "none") }, fs: api.ErrNone},
	{of: func(name string) string { return hard(name, "d") }, fs: api.ErrLink},
	{of: func(name string) string { return hard(name, "s/f") }, fs: api.ErrInWay},
	{of: func(name string) string { return hard(name, "f") }},
}

// first is the first error that is one.
func first(whys ...api.Errno) api.Errno {
	for _, why := range whys {
		if why != api.OK {
			return why
		}
	}
	return api.OK
}

// when is an error, if it is one.
func when(is bool, why api.Errno) api.Errno {
	if is {
		return why
	}
	return api.OK
}

// cause is the first fault of an entry, in the order of P20.2: the quota's, the contents', its own, the file system's.
func cause(n named, x thing, q api.Quota, inodes, bytes int) api.Errno {
	there, way := n.place, api.OK // what is there already, and what is in the way
	if there != api.ErrThere {
		there, way = api.OK, n.place
	}
	if x.dir && n.name == "d" {
		there, x.nodes = api.OK, false
	}
	return first(
		when(q.Entries < 1, api.ErrEntries),
		n.split,
		when(n.depth > q.Depth, api.ErrDepth),
		when(x.size > q.Bytes, api.ErrQuota),
		x.content,
		x.own,
		way,
		x.fs,
		there,
		when(x.nodes && inodes < 1, api.ErrSpace),
		when(x.size > int64(bytes), api.ErrSpace),
	)
}

// P20.2: all faults of one entry, together and alone: the first one is the cause.
func TestFaultsTogether(t *testing.T) {
	t.Parallel()
	all := []named{
		{"new", api.OK, 1, api.OK},
		{"d/new", api.OK, 2, api.OK},
		{"d", api.OK, 1, api.ErrThere},
		{"s", api.OK, 1, api.ErrThere},
		{"s/x", api.OK, 2, api.ErrInWay},
		{"f/x/y", api.OK, 3, api.ErrNotDir},
		{"none/x", api.OK, 2, api.ErrNone},
		{"../x", api.ErrDots, 1, api.OK},
		{"/s/x", api.ErrAbsolute, 2, api.OK},
		{"./", api.ErrEmpty, 0, api.OK},
	}
	seen := make(map[api.Errno]int)
	for _, n := range all {
		for _, x := range things {
			if n.name == "./" && x.size > 0 {
				continue // with a slash at its end it would be a directory's, and have no contents
			}
			for bits := range 32 {
				q := api.Quota{Bytes: 1 << 40, Entries: 1, Depth: 9}
				inodes, bytes := 1, 9
				for i, little := range []func(){
					func() { q.Entries = 0 },
					func() { q.Depth = 1 },
					func() { q.Bytes = 0 },
					func() { inodes = 0 },
					func() { bytes = 0 },
				} {
					if bits>>i&1 == 1 {
						little()
					}
				}
				want := api.Report{Name: n.name, Cause: cause(n, x, q, inodes, bytes)}
				b := x.of(n.name)
				if want.Cause == api.OK {
					want = api.Report{Done: 1, Bytes: x.size, Place: len(b)}
				}
				seen[want.Cause]++
				held{t, room(t, example(t), inodes, bytes)}.comes(b+end, 1, api.Extraction{Quota: q}, want)
			}
		}
	}
	for _, why := range []api.Errno{
		api.OK, api.ErrEntries, api.ErrDots, api.ErrAbsolute, api.ErrEmpty, api.ErrDepth, api.ErrQuota, api.ErrLong, api.ErrOdd,
		api.ErrTarget, api.ErrUnsafe, api.ErrNone, api.ErrInWay, api.ErrNotDir, api.ErrThere, api.ErrLink, api.ErrSpace,
	} {
		if seen[why] == 0 {
			t.Errorf("never %d", why)
		}
	}
}

// P20.2: the two faults next to one another in the order, of one entry.
func TestTwoFaults(t *testing.T) {
	great := func(name string) string {
		return paxHoles(name, tooGreat, []api.Range{{From: 5, To: 7}}, "ab")
	}
	deep := strings.Repeat("d/", 256) + "x"
	for _, x := range []struct {
		b     string
		o     api.Extraction
		name  string
		cause api.Errno
	}{
		{file("../x", "x"), api.Extraction{}, "../x", api.ErrEntries}, // and the name's
		{file("../x/y", "x"), api.Extraction{Quota: api.Quota{Entries: 1}}, "../x/y", api.ErrDots},
		{file("x/y", "x"), api.Extraction{Quota: api.Quota{Entries: 1, Depth: 1}}, "x/y", api.ErrDepth},
		{long('L', deep) + file("x", ""), api.Extraction{Quota: api.Quota{Entries: 1, Depth: 1}}, deep, api.ErrDeep},
		{great("x"), api.Extraction{Quota: api.Quota{Bytes: tooGreat - 1, Entries: 1, Depth: 1}}, "x", api.ErrQuota},
		{great("s/x"), by(api.Policy{}), "s/x", api.ErrLong},
		{great("s"), by(api.Policy{}), "s", api.ErrLong},
		{great("d"), by(api.Policy{There: api.Skip}), "d", api.ErrLong}, // it would be left out
		{device("s/x"), by(api.Policy{}), "s/x", api.ErrOdd},
		{device("f"), by(api.Policy{There: api.Skip}), "f", api.ErrOdd},
		{symlink("s/x", "/"), by(api.Policy{}), "s/x", api.ErrUnsafe},
		{symlink("s/x", "/"), by(api.Policy{Leaving: true}), "s/x", api.ErrInWay},
		{symlink("f", "../.."), by(api.Policy{There: api.Replace}), "f", api.ErrUnsafe},
		{hard("f/x", "../f"), by(api.Policy{}), "f/x", api.ErrDots},
		{hard("f", "d"), by(api.Policy{}), "f", api.ErrLink},
		{hard("none/x", "d"), by(api.Policy{}), "none/x", api.ErrNone},
		{long('K', strings.Repeat("x", 4097)) + symlink("s/x", "x"), by(api.Policy{Leaving: true}), "s/x", api.ErrTarget},
		{long('K', strings.Repeat("x", 256)) + hard("s/x", "x"), by(api.Policy{}), "s/x", api.ErrName},
	} {
		h := held{t, example(t)}
		h.unchanged(x.name, func() { h.comes(x.b+end, 1, x.o, api.Report{Name: x.name, Cause: x.cause}) })
	}
}

// P20.1, P20.2: of every class a refusal, with its cause; what was brought out ahead of it stays.
func TestClasses(t *testing.T) {
	deep := strings.Repeat("d/", 256) + "x"
	tiny := func(q api.Quota) api.Extraction { return api.Extraction{Quota: q} }
	for _, x := range []struct {
		b     string
		o     api.Extraction
		cause api.Errno
		class api.Errno
	}{
		{long('L', strings.Repeat("x/", 2049)) + file("x", ""), by(api.Policy{}), api.ErrLong, api.ErrFormat},
		{oldHoles("x", tooGreat, nil, ""), by(api.Policy{}), api.ErrLong, api.ErrFormat},
		{file("", ""), by(api.Policy{}), api.ErrEmpty, api.ErrUnsafer},
		{file("/x", ""), by(api.Policy{}), api.ErrAbsolute, api.ErrUnsafer},
		{file("x/..", ""), by(api.Policy{}), api.ErrDots, api.ErrUnsafer},
		{long('L', strings.Repeat("x", 256)) + file("x", ""), by(api.Policy{}), api.ErrName, api.ErrUnsafer},
		{long('L', deep) + file("x", ""), by(api.Policy{}), api.ErrDeep, api.ErrUnsafer},
		{symlink("x", ".."), by(api.Policy{}), api.ErrUnsafe, api.ErrUnsafer},
		{symlink("x", ""), by(api.Policy{}), api.ErrTarget, api.ErrUnsafer},
		{file("x/y", ""), by(api.Policy{}), api.ErrNone, api.ErrBlocked},
		{file("s/y", ""), by(api.Policy{}), api.ErrInWay, api.ErrBlocked},
		{file("f/y", ""), by(api.Policy{}), api.ErrNotDir, api.ErrBlocked},
		{file("f", ""), by(api.Policy{}), api.ErrThere, api.ErrBlocked},
		{hard("x", "s"), by(api.Policy{}), api.ErrLink, api.ErrBlocked},
		{file("x", ""), tiny(api.Quota{Entries: 1, Depth: 9}), api.ErrEntries, api.ErrLimits},
		{file("d/x", ""), tiny(api.Quota{Entries: 9, Depth: 1}), api.ErrDepth, api.ErrLimits},
		{file("x", "x"), tiny(api.Quota{Entries: 9, Depth: 9}), api.ErrQuota, api.ErrLimits},
		{device("x"), by(api.Policy{}), api.ErrOdd, api.ErrUnknown},
		{made(api.Header{Name: "x", Type: '6'}, ""), by(api.Policy{}), api.ErrOdd, api.ErrUnknown},
		{made(api.Header{Name: "x", Type: 'V'}, "label"), by(api.Policy{}), api.ErrOdd, api.ErrUnknown},
		{dir("x", 0) + dir("x/x", 0), by(api.Policy{}), api.ErrSpace, api.ErrNoRoom},
		{file("x", "more than five"), by(api.Policy{}), api.ErrSpace, api.ErrNoRoom},
	} {
		ahead := dir("d", 0o5)
		f := room(t, example(t), 1, 5)
		want := modelExtract([]byte(ahead+x.b+end), f, 1, x.o).report
		if want.Cause != x.cause {
			t.Errorf("%s: %d, not %d", sketch(x.b), want.Cause, x.cause)
		}
		h := held{t, f}
		if got, why := h.extract(ahead+x.b+end, 1, x.o); got != want || why != x.class || got.Done == 0 {
			t.Errorf("%s: %+v %d", sketch(x.b), got, why)
		}
		if metaAt(f, "d") != (api.Meta{Mode: 0o5}) {
			t.Errorf("%s: %+v", sketch(x.b), metaAt(f, "d"))
		}
	}
}

// P20.2, P20.3: files with and without holes, and of no bytes, in all ways in which they are told.
func TestFiles(t *testing.T) {
	holes := []api.Range{{From: 2, To: 4}, {From: 600, To: 601}}
	spread := "\x00\x00ab" + strings.Repeat("\x00", 596) + "c" + strings.Repeat("\x00", 399)
	for _, x := range []struct{ b, data string }{
		{file("x", "some bytes"), "some bytes"},
		{file("x", strings.Repeat("512.", 128)), strings.Repeat("512.", 128)},
		{file("x", strings.Repeat("513", 171)), strings.Repeat("513", 171)},
		{file("x", ""), ""},
		{made(api.Header{Name: "x", Type: '7'}, "bytes"), "bytes"},
		{made(api.Header{Form: api.V7, Name: "x", Type: '0'}, "bytes"), "bytes"},
		{made(api.Header{Form: api.GNU, Name: "x", Type: '0'}, "bytes"), "bytes"},
		{oldHoles("x", 1000, holes, "abc"), spread},
		{oldHoles("x", 0, nil, ""), ""},
		{oldHoles("x", 7, nil, ""), strings.Repeat("\x00", 7)},
		{oldHoles("x", 3, []api.Range{{From: 0, To: 3}}, "abc"), "abc"},
		{paxHoles("x", 1000, holes, "abc"), spread},
		{paxHoles("x", 0, nil, ""), ""},
		{paxHoles("x", 7, nil, ""), strings.Repeat("\x00", 7)},
		{pairs('x', "path", "x") + file("other", "bytes"), "bytes"},
	} {
		h := newHeld(t, 2, len(x.data))
		size := len(x.data)
		exact := api.Extraction{Quota: api.Quota{Bytes: int64(size), Entries: 1, Depth: 1}}
		h.comes(x.b+end, 1, exact, api.Report{Done: 1, Bytes: int64(size), Place: len(x.b)})
		if bytesAt(h.f, "x") != x.data {
			t.Errorf("%q", bytesAt(h.f, "x"))
		}
		acts := []api.Act{{Op: api.OpCreate, Dir: 1, Name: "x", Node: 2}, {Op: api.OpWrite, Node: 2, N: size}}
		if size == 0 {
			acts = acts[:1]
		}
		if got := h.f.Trace(); fmt.Sprint(got) != fmt.Sprint(acts) {
			t.Errorf("%+v, not %+v", got, acts)
		}
	}
}

// P20.2: the greatest file whose contents can be told, and one byte more, with holes; the error is the contents', whatever room there is.
func TestGreatFiles(t *testing.T) {
	at := int64(api.MaxBlock - 1)
	for _, b := range []string{
		oldHoles("x", at+1, []api.Range{{From: at, To: at + 1}}, "z"),
		paxHoles("x", at+1, []api.Range{{From: at, To: at + 1}}, "z"),
		file("x", strings.Repeat("\x00", int(at))+"z"),
	} {
		f, _ := vfs.New(9, api.MaxBytes)
		report, why := extract.Extract([]byte(b+end), f, 1, by(api.Policy{}))
		if why != api.OK || report != (api.Report{Done: 1, Bytes: at + 1, Place: len(b)}) {
			t.Error(report, why)
		}
		if data := bytesAt(f, "x"); len(data) != int(at)+1 || data[at] != 'z' || strings.Trim(data, "\x00") != "z" {
			t.Error(len(data))
		}
	}
	for _, x := range []struct {
		b    string
		size int64
	}{
		{oldHoles("x", at+2, []api.Range{{From: at, To: at + 1}}, "z"), at + 2},
		{paxHoles("x", at+2, nil, ""), at + 2},
		{paxHoles("x", 1<<63-1-5, nil, ""), 1<<63 - 1 - 5},
		{file("x", strings.Repeat("z", int(at)+2)), at + 2},
	} {
		f, _ := vfs.New(9, api.MaxBytes)
		o := api.Extraction{Quota: api.Quota{Bytes: x.size + 5, Entries: 2, Depth: 1}}
		report, why := extract.Extract([]byte(file("a", "bytes")+x.b+end), f, 1, o)
		if why != api.ErrFormat || report != (api.Report{Done: 1, Bytes: 5, Place: 1024, Name: "x", Cause: api.ErrLong}) || names(f, 1) != " a" {
			t.Error(report, why, names(f, 1))
		}
		o.Quota.Bytes--
		f, _ = vfs.New(9, api.MaxBytes)
		report, why = extract.Extract([]byte(file("a", "bytes")+x.b+end), f, 1, o)
		if why != api.ErrLimits || report != (api.Report{Done: 1, Bytes: 5, Place: 1024, Name: "x", Cause: api.ErrQuota}) || names(f, 1) != " a" {
			t.Error(report, why, names(f, 1))
		}
	}
}
