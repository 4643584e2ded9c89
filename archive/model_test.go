package archive_test

import (
	"bytes"
	"fmt"
	"math/big"
	"slices"
	"strings"
	"testing"

	"satchel/api"
	"satchel/archive"
	"satchel/extract"
	"satchel/frame"
	"satchel/gzip"
	"satchel/pack"
	"satchel/reader"
	"satchel/vfs"
	"satchel/walk"
	"satchel/writer"
)

// modelKind is Kind, by the bytes alone.
func modelKind(b []byte) int {
	switch {
	case bytes.HasPrefix(b, []byte("\x04\x22\x4d\x18")):
		return 1
	case len(b) > 3 && b[0]/16 == 5 && string(b[1:4]) == "\x2a\x4d\x18":
		return 1
	case bytes.HasPrefix(b, []byte("\x1f\x8b")):
		return 2
	}
	return 0
}

// modelUnwrap is P22.1.
func modelUnwrap(b []byte, most int) ([]byte, api.Errno) {
	if most < 0 || most > 4194304 {
		return nil, api.ErrArg
	}
	if modelKind(b) == 0 && len(b) > most {
		return nil, api.ErrPlain
	}
	switch modelKind(b) {
	case 1:
		plain, _, why := frame.Decode(b, most)
		return plain, why
	case 2:
		plain, _, why := gzip.Decode(b, most)
		return plain, why
	}
	return b, api.OK
}

// modelWrap is P22.2.
func modelWrap(b []byte, m api.Making) ([]byte, api.Errno) {
	if m.Wrap < 0 || m.Wrap > 2 {
		return nil, api.ErrArg
	}
	return []func() ([]byte, api.Errno){
		func() ([]byte, api.Errno) { return b, api.OK },
		func() ([]byte, api.Errno) { return frame.Encode(b, m.Shape) },
		func() ([]byte, api.Errno) { return gzip.Encode(b, api.Member{}, m.Way) },
	}[m.Wrap]()
}

// modelOuter is how many plain bytes a quota allows, as whole numbers.
func modelOuter(q api.Quota) int {
	sum := new(big.Int).Mul(big.NewInt(1536), big.NewInt(int64(q.Entries)))
	sum.Add(sum, big.NewInt(q.Bytes))
	sum.Add(sum, big.NewInt(1024+1<<20))
	if sum.Cmp(big.NewInt(1<<22)) > 0 {
		return 1 << 22
	}
	return int(sum.Int64())
}

// outcome is what Extract is to come to.
type outcome struct {
	report api.Report
	why    api.Errno
	f      *vfs.FS
}

// modelExtract is P22.3, on a clone.
func modelExtract(b []byte, f *vfs.FS, top int, o api.Extraction) outcome {
	g := f.Clone()
	if min(o.Quota.Bytes, int64(o.Quota.Entries), int64(o.Quota.Depth)) < 0 {
		return outcome{api.Report{Cause: api.ErrArg}, api.ErrRefused, g}
	}
	plain, why := modelUnwrap(b, modelOuter(o.Quota))
	switch {
	case modelKind(b) == 0:
		plain = b
	case why == api.ErrPlain:
		return outcome{api.Report{Cause: why}, api.ErrLimits, g}
	case why != api.OK:
		return outcome{api.Report{Cause: why}, api.ErrFormat, g}
	}
	report, why := extract.Extract(plain, g, top, o)
	return outcome{report, why, g}
}

// modelPack is P22.4: of the errors in their order the first one that is there.
func modelPack(f *vfs.FS, top int, m api.Making) ([]byte, api.Errno) {
	_, wrap := modelWrap(nil, api.Making{Wrap: m.Wrap, Shape: api.Shape{Block: 4}})
	l, tree := pack.Tree(f, top, m.Packing)
	plain, written := writer.Write(l, m.Style)
	b, wrapped := modelWrap(plain, m)
	for _, why := range []api.Errno{wrap, tree, written, wrapped} {
		if why != api.OK {
			return nil, why
		}
	}
	return b, api.OK
}

// modelList is P22.5.
func modelList(b []byte, most int) ([]string, api.Errno) {
	plain, why := modelUnwrap(b, most)
	if why != api.OK {
		return nil, why
	}
	r := reader.New(plain)
	var names []string
	x, there, why := r.Next()
	for ; there; x, there, why = r.Next() {
		names = append(names, x.Entry.Name)
	}
	return names, why
}

// brief is a value as a text that is not too long to be looked at.
func brief(x any) string {
	text := fmt.Sprintf("%+v", x)
	if b, is := x.([]byte); is {
		text = fmt.Sprintf("%d bytes: %.300q", len(b), b)
	}
	if len(text) > 1500 {
		return text[:1500] + " .."
	}
	return text
}

// lent makes a call with a copy of bytes that has spare room, and holds it to leave all of that as it was.
func lent(t *testing.T, b []byte, call func(b []byte)) {
	t.Helper()
	with := slices.Concat(b, []byte("spare room"))
	call(with[:len(b)])
	if !bytes.Equal(with[:len(b)], b) || string(with[len(b):]) != "spare room" {
		t.Fatalf("the bytes were changed: %s", brief(b))
	}
}

// unwrap is Unwrap, held to the model.
func unwrap(t *testing.T, b []byte, most int) ([]byte, api.Errno) {
	t.Helper()
	var plain []byte
	var why api.Errno
	lent(t, b, func(b []byte) { plain, why = archive.Unwrap(b, most) })
	if want, e := modelUnwrap(b, most); !bytes.Equal(plain, want) || why != e {
		t.Fatalf("Unwrap of %s, at most %d: %s %d, not %s %d", brief(b), most, brief(plain), why, brief(want), e)
	}
	if why != api.OK && plain != nil {
		t.Fatalf("Unwrap of %s, at most %d: %d, and not nil", brief(b), most, why)
	}
	return plain, why
}

// wrap is Wrap, held to the model.
func wrap(t *testing.T, b []byte, m api.Making) ([]byte, api.Errno) {
	t.Helper()
	var out []byte
	var why api.Errno
	lent(t, b, func(b []byte) { out, why = archive.Wrap(b, m) })
	if want, e := modelWrap(b, m); !bytes.Equal(out, want) || why != e {
		t.Fatalf("Wrap of %s in %+v: %s %d, not %s %d", brief(b), m, brief(out), why, brief(want), e)
	}
	if why != api.OK && out != nil {
		t.Fatalf("Wrap of %s in %+v: %d, and not nil", brief(b), m, why)
	}
	return out, why
}

// list is List, held to the model, its names each behind a blank.
func list(t *testing.T, b []byte, most int) (string, api.Errno) {
	t.Helper()
	var names []string
	var why api.Errno
	lent(t, b, func(b []byte) { names, why = archive.List(b, most) })
	if want, e := modelList(b, most); !slices.Equal(names, want) || why != e {
		t.Fatalf("List of %s, at most %d: %s %d, not %s %d", brief(b), most, brief(names), why, brief(want), e)
	}
	text := ""
	for _, name := range names {
		text += " " + name
	}
	return text, why
}

// mustWrap is bytes wrapped so, which must be OK. (What wrap holds it to is left out: it is called often.)
func mustWrap(t *testing.T, b []byte, m api.Making) []byte {
	t.Helper()
	out, why := archive.Wrap(b, m)
	if why != api.OK {
		t.Fatalf("Wrap of %s in %+v: %d", brief(b), m, why)
	}
	return out
}

// held is a file system on which each call is held to the model and to what the chapter says that it comes to.
type held struct {
	t *testing.T
	f *vfs.FS
}

// extract brings wrapped bytes out, and holds that to all promises.
func (h held) extract(b []byte, top int, o api.Extraction) (api.Report, api.Errno) {
	h.t.Helper()
	old, trace := h.f.Clone(), h.f.Trace()
	var report api.Report
	var why api.Errno
	lent(h.t, b, func(b []byte) { report, why = archive.Extract(b, h.f, top, o) })
	want := modelExtract(b, old, top, o)
	told := func() string {
		return fmt.Sprintf("Extract(%s, %d, %+v) of %s", sketch(b), top, o, brief(old.Image()))
	}
	if report != want.report || why != want.why {
		h.t.Fatalf("%s: %+v %d, not %+v %d", told(), report, why, want.report, want.why)
	}
	if !sameImage(h.f.Image(), want.f.Image()) {
		h.t.Fatalf("%s: %s, not %s", told(), brief(h.f.Image()), brief(want.f.Image()))
	}
	acts := h.f.Trace()
	if len(acts) < len(trace) || !slices.Equal(acts[:len(trace)], trace) || !slices.Equal(acts[len(trace):], want.f.Trace()) {
		h.t.Fatalf("%s: did %+v, not %+v", told(), acts, want.f.Trace())
	}
	acts = acts[len(trace):]
	for _, fault := range []string{
		confined(old.Image(), h.f.Image(), top),
		followed(old, acts, top),
		beyond(old, h.f, acts, top, o.Quota, report),
	} {
		if fault != "" {
			h.t.Fatalf("%s: %s", told(), fault)
		}
	}
	return report, why
}

// comes brings wrapped bytes out, which must come to that.
func (h held) comes(b []byte, top int, o api.Extraction, want api.Report, e api.Errno) {
	h.t.Helper()
	if got, why := h.extract(b, top, o); got != want || why != e {
		h.t.Errorf("Extract(%s, %d, %+v): %+v %d, not %+v %d", sketch(b), top, o, got, why, want, e)
	}
}

// nothing brings wrapped bytes out, which must come to that, and to nothing that is done.
func (h held) nothing(b []byte, top int, o api.Extraction, cause, e api.Errno) {
	h.t.Helper()
	h.unchanged("nothing is done", func() { h.comes(b, top, o, api.Report{Cause: cause}, e) })
}

// pack is Pack, held to the model; it changes nothing.
func (h held) pack(top int, m api.Making) ([]byte, api.Errno) {
	h.t.Helper()
	var b []byte
	var why api.Errno
	h.unchanged("Pack", func() { b, why = archive.Pack(h.f, top, m) })
	if want, e := modelPack(h.f, top, m); !bytes.Equal(b, want) || why != e {
		h.t.Fatalf("Pack(%d, %+v) of %s: %s %d, not %s %d", top, m, brief(h.f.Image()), brief(b), why, brief(want), e)
	}
	if why != api.OK && b != nil {
		h.t.Fatalf("Pack(%d, %+v): %d, and not nil", top, m, why)
	}
	return b, why
}

// mustPack is a tree's bytes, which must be OK.
func (h held) mustPack(top int, m api.Making) []byte {
	h.t.Helper()
	b, why := h.pack(top, m)
	if why != api.OK {
		h.t.Fatalf("Pack(%d, %+v) of %s: %d", top, m, brief(h.f.Image()), why)
	}
	return b
}

// unchanged makes calls that must leave the file system as it is, its trace too.
func (h held) unchanged(what string, call func()) {
	h.t.Helper()
	image, trace := h.f.Image(), h.f.Trace()
	call()
	if !sameImage(image, h.f.Image()) || !slices.Equal(trace, h.f.Trace()) {
		h.t.Fatalf("%s: was %s, is %s", what, brief(image), brief(h.f.Image()))
	}
}

func sameNode(a, b api.Node) bool {
	return a.Number == b.Number && a.Kind == b.Kind && a.Meta == b.Meta && a.Target == b.Target &&
		string(a.Data) == string(b.Data) && slices.Equal(a.Entries, b.Entries)
}

func sameImage(a, b api.Image) bool {
	return a.Nodes == b.Nodes && a.Bytes == b.Bytes && a.Next == b.Next && slices.EqualFunc(a.List, b.List, sameNode)
}

// sketch is wrapped bytes as what can be read of them.
func sketch(b []byte) string {
	plain, why := modelUnwrap(b, api.MaxBlock)
	if why != api.OK {
		return fmt.Sprintf("{wrapped %d: %d, of %s}", modelKind(b), why, brief(b))
	}
	items, at, why := reader.Read(plain)
	text := fmt.Sprintf("{wrapped %d: ", modelKind(b))
	for _, x := range items {
		e := x.Entry
		text += fmt.Sprintf("%d %.40q", e.Kind, e.Name)
		if e.Link != "" {
			text += fmt.Sprintf(" to %.40q", e.Link)
		}
		text += fmt.Sprintf(" of %d %+v, ", e.Size, e.Meta)
	}
	return fmt.Sprintf("%s%d at %d of %d}", text, why, at, len(plain))
}

// reach is the inodes of an image that are reached from top by entries, top among them; none, if it is not there.
func reach(image api.Image, top int) map[int]bool {
	entries := make(map[int][]api.Named)
	for _, n := range image.List {
		entries[n.Number] = n.Entries
	}
	seen := make(map[int]bool)
	for level := []int{top}; len(level) > 0; {
		var next []int
		for _, number := range level {
			list, there := entries[number]
			if !there || seen[number] {
				continue
			}
			seen[number] = true
			for _, e := range list {
				next = append(next, e.Node)
			}
		}
		level = next
	}
	return seen
}

// outside is the inodes of an image that nothing done in top may change: those that aren't reached from it, and those that are no directory and have a name in a directory that isn't.
func outside(image api.Image, top int) map[int]bool {
	in := reach(image, top)
	out := make(map[int]bool)
	isDir := make(map[int]bool)
	for _, n := range image.List {
		isDir[n.Number] = n.Kind == api.Dir
		if !in[n.Number] {
			out[n.Number] = true
		}
	}
	for _, n := range image.List {
		for _, e := range n.Entries {
			if !in[n.Number] && !isDir[e.Node] {
				out[e.Node] = true
			}
		}
	}
	return out
}

// confined is P20.5: what of an old image must be as it was, and is not.
func confined(old, now api.Image, top int) string {
	out := outside(old, top)
	is := make(map[int]api.Node)
	for _, n := range now.List {
		is[n.Number] = n
	}
	for _, n := range old.List {
		if x, there := is[n.Number]; out[n.Number] && (!there || !sameNode(x, n)) {
			return fmt.Sprintf("%d is outside of %d, and is another one", n.Number, top)
		}
	}
	return ""
}

// followed is P20.6: the calls of the trace, one by one on what was there, so that each is seen at its time.
func followed(old *vfs.FS, acts []api.Act, top int) string {
	f := old.Clone()
	for i, x := range acts {
		is, _ := f.Stat(x.Node)
		names := x.Op != api.OpWrite && x.Op != api.OpMeta
		switch {
		case names && !walk.Inside(f, top, x.Dir):
			return fmt.Sprintf("%d, %+v names a directory outside", i, x)
		case !names && !reach(f.Image(), top)[x.Node]:
			return fmt.Sprintf("%d, %+v changes what is outside", i, x)
		case is.Kind == api.Symlink && x.Op != api.OpUnlink:
			return fmt.Sprintf("%d, %+v changes a symbolic link", i, x)
		case !again(f, x):
			return fmt.Sprintf("%d, %+v can't be done again", i, x)
		}
	}
	return ""
}

// again makes a call of the trace.
func again(f *vfs.FS, x api.Act) bool {
	var why api.Errno
	node := x.Node
	switch x.Op {
	case api.OpMkdir:
		node, why = f.Mkdir(x.Dir, x.Name, api.Meta{})
	case api.OpCreate:
		node, why = f.Create(x.Dir, x.Name, api.Meta{})
	case api.OpSymlink:
		node, why = f.Symlink(x.Dir, x.Name, "target", api.Meta{})
	case api.OpLink:
		why = f.Link(x.Dir, x.Name, x.Node)
	case api.OpWrite:
		why = f.Write(x.Node, x.At, make([]byte, x.N))
	case api.OpMeta:
		why = f.Change(x.Node, api.Meta{})
	case api.OpUnlink:
		why = f.Unlink(x.Dir, x.Name)
	default:
		return false // nothing else is called
	}
	return why == api.OK && node == x.Node
}

// beyond is P20.7: what is more than the quota has.
func beyond(old, now *vfs.FS, acts []api.Act, top int, q api.Quota, report api.Report) string {
	if report.Done+report.Skipped > max(q.Entries, 0) {
		return "too many entries"
	}
	written := int64(0)
	for _, x := range acts {
		if x.Op == api.OpWrite {
			written += int64(x.N)
		}
	}
	if written > max(q.Bytes, 0) {
		return fmt.Sprintf("%d bytes were written", written)
	}
	next := old.Image().Next
	for _, x := range walk.All(now, top) {
		if x.Node >= next && len(x.Parts) > q.Depth {
			return fmt.Sprintf("%q was made too deep", strings.Join(x.Parts, "/"))
		}
	}
	return ""
}
