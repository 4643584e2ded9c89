package extract_test

import (
	"math"
	"slices"
	"strings"
	"testing"

	"satchel/api"
	"satchel/extract"
	"satchel/field"
	"satchel/vfs"
)

var plenty = api.Quota{Bytes: 1 << 30, Entries: 1000, Depth: 256}

// by is an extraction with plenty of room, by a policy.
func by(p api.Policy) api.Extraction { return api.Extraction{Policy: p, Quota: plenty} }

func newHeld(t *testing.T, nodes, bytes int) held {
	f, why := vfs.New(nodes, bytes)
	if why != api.OK {
		t.Fatal(why)
	}
	return held{t, f}
}

// P20.2 to P20.4: the chapter's examples.
func TestExamples(t *testing.T) {
	leaving := by(api.Policy{Leaving: true})
	tree := dir("d", 0) + file("d/f", "abc") + end
	h := newHeld(t, 9, 99)
	h.comes(tree, 1, by(api.Policy{}), api.Report{Done: 2, Bytes: 3, Place: 1536})
	if metaAt(h.f, "d").Mode != 0 || bytesAt(h.f, "d/f") != "abc" {
		t.Error(brief(h.f.Image()))
	}

	planted := symlink("s", "..") + file("s/x", "abc") + end
	h = newHeld(t, 9, 99)
	h.comes(planted, 1, leaving, api.Report{Done: 1, Place: 512, Name: "s/x", Cause: api.ErrInWay})
	if names(h.f, 1) != " s" {
		t.Error(names(h.f, 1))
	}
	h = newHeld(t, 9, 99)
	h.unchanged("a link that leads out", func() {
		h.comes(planted, 1, by(api.Policy{}), api.Report{Name: "s", Cause: api.ErrUnsafe})
	})

	h = newHeld(t, 9, 99)
	h.comes(tree, 1, api.Extraction{Quota: api.Quota{Bytes: 2, Entries: 9, Depth: 9}}, api.Report{Done: 1, Place: 512, Name: "d/f", Cause: api.ErrQuota})
	if names(h.f, 1) != " d/" || metaAt(h.f, "d").Mode != 0 {
		t.Error(brief(h.f.Image()))
	}
	h = newHeld(t, 9, 99)
	h.unchanged("no archive", func() {
		h.comes(strings.Repeat("x", 100), 1, leaving, api.Report{Place: 100, Cause: api.ErrShort})
	})
}

// The examples of the whole that this layer can show: 2, 3 and 8.
func TestExamplesOfTheWhole(t *testing.T) {
	h := held{t, house(t)}
	h.comes(symlink("s", "/etc")+file("s/passwd", "evil")+end, 2, by(api.Policy{Leaving: true}),
		api.Report{Done: 1, Place: 512, Name: "s/passwd", Cause: api.ErrInWay})
	for name, cause := range map[string]api.Errno{"../passwd": api.ErrDots, "/passwd": api.ErrAbsolute} {
		h := held{t, house(t)}
		h.unchanged(name, func() {
			h.comes(file(name, "evil")+end, 2, by(api.Policy{Leaving: true}), api.Report{Name: name, Cause: cause})
			if extract.Class(cause) != api.ErrUnsafer {
				t.Error(cause)
			}
		})
	}
	h = newHeld(t, 9, 99)
	h.comes(file("a", "1")+file("b", "22")+file("c", "333")[:700], 1, by(api.Policy{}),
		api.Report{Done: 2, Bytes: 3, Place: 2748, Cause: api.ErrShort})
	if bytesAt(h.f, "a") != "1" || bytesAt(h.f, "b") != "22" || names(h.f, 1) != " a b" {
		t.Error(names(h.f, 1))
	}
}

// P20.2, 1: a There that is none of the three and quotas that can't be, ahead of tops that are no inode or no directory, and these ahead of all that the bytes hold; nothing is done.
func TestArguments(t *testing.T) {
	good := by(api.Policy{Parents: true})
	bad := []api.Extraction{}
	for _, there := range []int{-1, 3, 4, math.MinInt, math.MaxInt} {
		o := good
		o.Policy.There = there
		bad = append(bad, o)
	}
	for _, n := range []int{-1, math.MinInt} {
		bytes, entries, depth := good, good, good
		bytes.Quota.Bytes, entries.Quota.Entries, depth.Quota.Depth = int64(n), n, n
		both := depth
		both.Policy.There = 3
		bad = append(bad, bytes, entries, depth, both)
	}
	f := example(t)
	tops := map[int]api.Errno{1: api.OK, 2: api.OK}
	for _, none := range []int{0, -1, 5, 99, math.MinInt, math.MaxInt} {
		tops[none] = api.ErrOutside
	}
	tops[3], tops[4] = api.ErrNotDir, api.ErrNotDir
	archives := []string{"", end, file("new", "new") + end, dir("d", 0) + end, file("../x", "") + end, strings.Repeat("x", 100), strings.Repeat("x", 512)}
	for top, fault := range tops {
		for _, b := range archives {
			h := held{t, f.Clone()}
			h.unchanged("arguments that can't be", func() {
				for _, o := range bad {
					h.comes(b, top, o, api.Report{Cause: api.ErrArg})
				}
				if fault != api.OK {
					h.comes(b, top, good, api.Report{Cause: fault})
				}
			})
		}
	}
	// Each of the least that can be is no fault.
	for _, there := range ways {
		h := held{t, f.Clone()}
		h.comes(end, 1, api.Extraction{Policy: api.Policy{There: there}}, api.Report{})
	}
}

// P20.2: archives that end well, wherever they do: Place is where reading ended.
func TestEnds(t *testing.T) {
	for _, x := range []struct {
		b    string
		want api.Report
	}{
		{"", api.Report{}},
		{zeroRecord, api.Report{}},
		{end, api.Report{}},
		{end + end + "no matter", api.Report{}},
		{zeroRecord + "no matter", api.Report{}},
		{zeroRecord + file("never", "x"), api.Report{}},
		{file("a", "x"), api.Report{Done: 1, Bytes: 1, Place: 1024}},
		{file("a", "x") + zeroRecord, api.Report{Done: 1, Bytes: 1, Place: 1024}},
		{file("a", "x") + end, api.Report{Done: 1, Bytes: 1, Place: 1024}},
		{file("a", "x") + zeroRecord + file("../never", "x"), api.Report{Done: 1, Bytes: 1, Place: 1024}},
		{file("a", ""), api.Report{Done: 1, Place: 512}},
		{file("a", strings.Repeat("x", 513)), api.Report{Done: 1, Bytes: 513, Place: 1536}},
		{pairs('g', "uname", "x") + end, api.Report{Place: 1024}},
		{file("a", "x") + pairs('g', "uname", "x"), api.Report{Done: 1, Bytes: 1, Place: 2048}},
		{long('L', "n") + dir("x", 0) + end, api.Report{Done: 1, Place: 1536}},
	} {
		h := newHeld(t, 9, 999)
		h.comes(x.b, 1, by(api.Policy{}), x.want)
	}
}

// mixed is an archive of five entries: the first three are told in all ways, the others are another name and a file with holes. froms and nexts are where they begin and end.
func mixed() (b string, froms, nexts []int) {
	for _, text := range []string{
		dir("d/", 0o70),
		pairs('x', "mtime", "5.5", "uid", "7") + file("d/f", "abc"),
		long('L', "d/"+strings.Repeat("x", 120)) + symlink("x", "f"),
		hard("h", "d/f"),
		oldHoles("g", 2000, []api.Range{{From: 0, To: 2}, {From: 10, To: 12}, {From: 20, To: 22}, {From: 30, To: 32}, {From: 1990, To: 2000}}, "abcdefgh0123456789"),
	} {
		froms = append(froms, len(b))
		b += text
		nexts = append(nexts, len(b))
	}
	return b + end, froms, nexts
}

// setting is where mixed is brought out, and what comes of its entries.
type setting struct {
	lines []string // of the file system
	there int
	left  []int // the entries that are left out
}

var settings = []setting{{}, {[]string{"d/", "h"}, api.Skip, []int{0, 3}}}

func (x setting) held(t *testing.T) held { return held{t, room(t, grown(t, x.lines...), 9, 9999)} }

func (x setting) by() api.Extraction { return by(api.Policy{There: x.there}) }

// report is what comes of the entries that end up to a place.
func (x setting) report(nexts []int, place int) api.Report {
	var r api.Report
	for i, next := range nexts {
		switch {
		case next > place:
		case slices.Contains(x.left, i):
			r.Skipped++
		default:
			r.Done++
			r.Bytes += []int64{0, 3, 0, 0, 2000}[i]
		}
	}
	return r
}

// P20.2, P20.3, P20.8; P8 of the whole: an archive cut at each byte: all entries ahead of the cut are brought out, whole, and no more.
func TestCut(t *testing.T) {
	t.Parallel()
	b, froms, nexts := mixed()
	for _, x := range settings {
		after := []string{names(x.held(t).f, 1)} // the names behind so many entries
		for i := range nexts {
			h := x.held(t)
			h.extract(b[:nexts[i]], 1, x.by())
			after = append(after, names(h.f, 1))
		}
		if after[5] != " d/ d/f d/"+strings.Repeat("x", 120)+" g h" {
			t.Fatal(after[5])
		}
		for n := range len(b) + 1 {
			want := x.report(nexts, n)
			want.Place, want.Cause = n, api.ErrShort
			switch {
			case n == 0 || slices.Contains(nexts, n):
				want.Cause = api.OK
			case n >= nexts[4]+512:
				want.Place, want.Cause = nexts[4], api.OK
			case n == froms[1]+1024 || n == froms[2]+1024:
				want.Place, want.Cause = n-1024, api.ErrAlone
			}
			h := x.held(t)
			h.comes(b[:n], 1, x.by(), want)
			if got := names(h.f, 1); got != after[want.Done+want.Skipped] {
				t.Errorf("%d: %s", n, got)
			}
		}
	}
}

// heads are the places of all headers of mixed.
func heads(froms []int) []int {
	return append(slices.Clone(froms), froms[1]+1024, froms[2]+1024)
}

// P20.2, P20.3, P20.8: each byte of each header changed: the sum is wrong, and the entries ahead are brought out.
func TestSpoilt(t *testing.T) {
	t.Parallel()
	b, froms, nexts := mixed()
	for _, head := range heads(froms) {
		for i := range 512 {
			for j, turned := range []byte{1, 0x80} {
				x := settings[(i+j)%2]
				spoilt := []byte(b)
				spoilt[head+i] ^= turned
				if i >= 148 && i < 156 { // the sum's own field, which may say the same in another way
					x.held(t).extract(string(spoilt), 1, x.by())
					continue
				}
				want := x.report(nexts, head)
				want.Place, want.Cause = head+148, api.ErrSum
				x.held(t).comes(string(spoilt), 1, x.by(), want)
			}
		}
	}
}

// summed is an archive with a byte of a header changed, and the header's sum made anew.
func summed(b string, head, i int, to byte) string {
	r := [512]byte([]byte(b[head : head+512]))
	r[i] = to
	r = field.PutSum(r)
	return b[:head] + string(r[:]) + b[head+512:]
}

// P20.2, P20.3, P20.8: each byte of each header changed, with a sum that is right: what is no number and no magic is told at its place.
func TestSpoiltWithSum(t *testing.T) {
	t.Parallel()
	b, froms, nexts := mixed()
	for _, head := range heads(froms) {
		for i := range 512 {
			for j, to := range []byte{'8', 0} {
				x := settings[(i+j)%2]
				x.held(t).extract(summed(b, head, i, to), 1, x.by())
			}
		}
		for _, x := range settings {
			want := x.report(nexts, head)
			for _, number := range []int{100, 108, 116, 124, 136} {
				want.Place, want.Cause = head+number, api.ErrDigit
				x.held(t).comes(summed(b, head, number+3, '8'), 1, x.by(), want)
			}
			want.Place, want.Cause = head+257, api.ErrMagic
			for i := 257; i < 265; i++ {
				x.held(t).comes(summed(b, head, i, 'z'), 1, x.by(), want)
			}
		}
	}
}

// P20.2: the reader's errors, each with its place, behind an entry that is brought out.
func TestReaderErrors(t *testing.T) {
	withSize := func(b string, digits string) string {
		for i := range digits {
			b = summed(b, 0, 124+i, digits[i])
		}
		return b
	}
	for _, x := range []struct {
		b     string
		place int
		cause api.Errno
	}{
		{"x", 1, api.ErrShort},
		{file("x", "xyz")[:1023], 1023, api.ErrShort},
		{withSize(file("x", ""), "77777777777"), 512, api.ErrShort},
		{withSize(pairs('x', "a", "b"), "00004000001"), 0, api.ErrLong},
		{pairs('x', "uid", "4294967296") + file("x", ""), 1024, api.ErrBig},
		{pairs('x', "gid", "no") + file("x", ""), 1024, api.ErrDigit},
		{made(api.Header{Name: "x", Type: 'x'}, "09 path=a\n") + file("x", ""), 512, api.ErrLength},
		{made(api.Header{Name: "x", Type: 'x'}, "9 =ath=a\n") + file("x", ""), 514, api.ErrKey},
		{made(api.Header{Name: "x", Type: 'x'}, "9 path=a.") + file("x", ""), 520, api.ErrRecord},
		{long('L', "long"), 0, api.ErrAlone},
		{long('K', "long") + zeroRecord, 0, api.ErrAlone},
		{oldHoles("x", 9, []api.Range{{From: 0, To: 2}}, "abc"), 0, api.ErrSparse},
		{pairs('x', "GNU.sparse.major", "1", "GNU.sparse.minor", "0", "GNU.sparse.realsize", "9") + file("x", "01\n"+strings.Repeat("\x00", 509)), 1536, api.ErrForm},
	} {
		h := newHeld(t, 9, 99)
		ahead := file("a", "bytes")
		h.comes(ahead+x.b, 1, by(api.Policy{}), api.Report{Done: 1, Bytes: 5, Place: len(ahead) + x.place, Cause: x.cause})
		if extract.Class(x.cause) != api.ErrFormat || bytesAt(h.f, "a") != "bytes" {
			t.Error(x.cause)
		}
	}
}

// P20.2: Place is where the first of the headers begins that the refused entry takes, Name is the whole of its name.
func TestPlaceAndName(t *testing.T) {
	far := strings.Repeat("far/", 30) + "name"
	tooLong := strings.Repeat("x", 5000)
	ahead := dir("d", 0o755)
	for _, x := range []struct {
		b     string
		name  string
		cause api.Errno
	}{
		{file("none/x", "x"), "none/x", api.ErrNone},
		{file("./none//x/", "x"), "./none//x/", api.ErrNone},
		{long('L', far) + file("x", "x"), far, api.ErrNone},
		{long('K', "y") + long('L', far) + hard("x", "x"), far, api.ErrNone},
		{pairs('x', "path", far) + file("x", "x"), far, api.ErrNone},
		{pairs('x', "uid", "5") + long('L', far) + symlink("x", "x"), far, api.ErrNone},
		{long('L', tooLong) + file("x", "x"), tooLong, api.ErrLong},
		{long('L', tooLong[:256]) + file("x", "x"), tooLong[:256], api.ErrName},
		{pairs('x', "comment", "c") + device("x"), "x", api.ErrOdd},
		{paxHoles("none/y", 3, []api.Range{{From: 1, To: 2}}, "y"), "none/y", api.ErrNone},
		{file("", ""), "", api.ErrEmpty},
		{file("./.", ""), "./.", api.ErrEmpty},
	} {
		h := newHeld(t, 9, 99)
		h.comes(ahead+x.b+end, 1, by(api.Policy{}), api.Report{Done: 1, Place: 512, Name: x.name, Cause: x.cause})
	}
}

// P20.2: behind an entry that is refused nothing is looked at, be it good or bad.
func TestFirstCauseEndsIt(t *testing.T) {
	for _, behind := range []string{end, file("b", "b") + end, file("../c", ""), "no archive", strings.Repeat("x", 512)} {
		for _, cause := range []api.Errno{api.ErrDots, api.ErrNone} {
			name := map[api.Errno]string{api.ErrDots: "../x", api.ErrNone: "none/x"}[cause]
			h := newHeld(t, 9, 99)
			h.comes(file("a", "aa")+file(name, "x")+behind, 1, by(api.Policy{}), api.Report{Done: 1, Bytes: 2, Place: 1024, Name: name, Cause: cause})
			if names(h.f, 1) != " a" {
				t.Error(names(h.f, 1))
			}
		}
	}
}
