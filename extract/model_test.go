package extract_test

import (
	"fmt"
	"slices"
	"strings"
	"testing"

	"satchel/api"
	"satchel/apply"
	"satchel/extract"
	"satchel/path"
	"satchel/reader"
	"satchel/vfs"
	"satchel/walk"
)

// ways are all that a policy says of what is there.
var ways = []int{api.Keep, api.Replace, api.Skip}

// outcome is what Extract is to come to.
type outcome struct {
	report api.Report
	read   bool // the cause, if there is one, is not an argument's or an entry's, but the reader's
	f      *vfs.FS
}

// modelBegin is P20.2, 1.
func modelBegin(f *vfs.FS, top int, o api.Extraction) api.Errno {
	is, _ := f.Stat(top)
	switch {
	case !slices.Contains(ways, o.Policy.There), o.Quota.Bytes < 0, o.Quota.Entries < 0, o.Quota.Depth < 0:
		return api.ErrArg
	case is.Kind == 0:
		return api.ErrOutside
	case is.Kind != api.Dir:
		return api.ErrNotDir
	}
	return api.OK
}

// modelTake is what a quota says of an entry ahead of which so many entries and bytes were taken.
func modelTake(e api.Entry, q api.Quota, entries int, taken int64) api.Errno {
	parts, why := path.Split(e.Name)
	isFile := e.Kind == api.File
	faults := []struct {
		is  bool
		why api.Errno
	}{
		{entries >= q.Entries, api.ErrEntries},
		{why != api.OK, why},
		{len(parts) > q.Depth, api.ErrDepth},
		{isFile && e.Size < 0, api.ErrArg},
		{isFile && uint64(taken)+uint64(e.Size) > uint64(q.Bytes), api.ErrQuota},
	}
	for _, x := range faults {
		if x.is {
			return x.why
		}
	}
	return api.OK
}

// modelMode is a mode without a mask's bits, bit by bit, and with those from one place up to another.
func modelMode(mode, mask uint32, from, to int) uint32 {
	sum := uint32(0)
	for i := range 32 {
		bit := uint32(1) << i
		if mode&bit != 0 && mask&bit == 0 || i >= from && i < to {
			sum += bit
		}
	}
	return sum
}

// modelApply is an entry and its bytes, applied: apply's own errors.
func modelApply(f *vfs.FS, top int, e api.Entry, data []byte, p api.Policy) (api.Done, api.Errno) {
	if e.Kind == api.Dir {
		e.Meta.Mode = modelMode(e.Meta.Mode, p.Mask, 6, 9)
		p.Mask = 0
	}
	return apply.Apply(f, top, e, data, p)
}

// modelExtract is P20.2 to P20.4, on a clone: what is to be read is read ahead of all else.
func modelExtract(b []byte, f *vfs.FS, top int, o api.Extraction) outcome {
	x := outcome{f: f.Clone()}
	if x.report.Cause = modelBegin(f, top, o); x.report.Cause != api.OK {
		return x
	}
	items, place, why := reader.Read(b)
	taken := int64(0)
	last := make(map[int]int) // of directories the last entry that was brought out to them
	var nodes []int
	for i, item := range items {
		var data []byte
		var done api.Done
		e := item.Entry
		for _, step := range []func() api.Errno{
			func() api.Errno { return modelTake(e, o.Quota, i, taken) },
			func() (why api.Errno) {
				if e.Kind == api.File {
					data, why = reader.Content(b, item)
				}
				return why
			},
			func() api.Errno { return apply.Check(e, data, o.Policy) },
			func() (why api.Errno) {
				done, why = modelApply(x.f, top, e, data, o.Policy)
				return why
			},
		} {
			if x.report.Cause == api.OK {
				x.report.Cause = step()
			}
		}
		nodes = append(nodes, done.Node)
		if x.report.Cause != api.OK {
			x.report.Place, x.report.Name = item.From, e.Name
			break
		}
		if e.Kind == api.File {
			taken += e.Size
		}
		if done.Skipped {
			x.report.Skipped++
			continue
		}
		x.report.Done++
		if e.Kind == api.File {
			x.report.Bytes += e.Size
		}
		if e.Kind == api.Dir {
			last[done.Node] = i
		}
	}
	if x.report.Cause == api.OK {
		x.report.Place, x.report.Cause, x.read = place, why, true
	}
	// No directory is ever taken away, so each is there still.
	for i, node := range slices.Backward(nodes) {
		if n, isDir := last[node]; isDir && n == i {
			m := items[i].Entry.Meta
			m.Mode = modelMode(m.Mode, o.Policy.Mask, 0, 0)
			x.f.Change(node, m)
		}
	}
	return x
}

// brief is a value as a text that is not too long to be looked at.
func brief(x any) string {
	text := fmt.Sprintf("%+v", x)
	if len(text) > 1500 {
		return text[:1500] + " .."
	}
	return text
}

func sameNode(a, b api.Node) bool {
	return a.Number == b.Number && a.Kind == b.Kind && a.Meta == b.Meta && a.Target == b.Target &&
		string(a.Data) == string(b.Data) && slices.Equal(a.Entries, b.Entries)
}

func sameImage(a, b api.Image) bool {
	return a.Nodes == b.Nodes && a.Bytes == b.Bytes && a.Next == b.Next && slices.EqualFunc(a.List, b.List, sameNode)
}

// held is a file system on which each extraction is held to the model and to what the chapter says that it comes to.
type held struct {
	t *testing.T
	f *vfs.FS
}

// extract brings an archive out, and holds that to all promises.
func (h held) extract(b string, top int, o api.Extraction) (api.Report, api.Errno) {
	h.t.Helper()
	old, trace := h.f.Clone(), h.f.Trace()
	with := []byte(b + "spare")
	report, why := extract.Extract(with[:len(b)], h.f, top, o)
	want := modelExtract([]byte(b), old, top, o)
	told := func() string {
		return fmt.Sprintf("Extract(%s, %d, %+v) of %s", sketch(b), top, o, brief(old.Image()))
	}
	if string(with) != b+"spare" {
		h.t.Fatalf("%s: the bytes were changed", told())
	}
	if report != want.report || why != modelClass(want.report.Cause) {
		h.t.Fatalf("%s: %+v %d, not %+v", told(), report, why, want.report)
	}
	if !sameImage(h.f.Image(), want.f.Image()) {
		h.t.Fatalf("%s: %s, not %s", told(), brief(h.f.Image()), brief(want.f.Image()))
	}
	acts := h.f.Trace()
	if len(acts) < len(trace) || !slices.Equal(acts[:len(trace)], trace) || !slices.Equal(acts[len(trace):], want.f.Trace()) {
		h.t.Fatalf("%s: did %+v, not %+v", told(), acts, want.f.Trace())
	}
	acts = acts[len(trace):]
	for _, fault := range []string{
		confined(old.Image(), h.f.Image(), top),
		followed(old, acts, top),
		beyond(old, h.f, acts, top, o.Quota, report),
		otherBeginning(b, old, h.f, acts, top, o, report, want.read),
	} {
		if fault != "" {
			h.t.Fatalf("%s: %s", told(), fault)
		}
	}
	return report, why
}

// comes brings an archive out, which must come to that report.
func (h held) comes(b string, top int, o api.Extraction, want api.Report) {
	h.t.Helper()
	if got, why := h.extract(b, top, o); got != want || why != modelClass(want.Cause) {
		h.t.Errorf("Extract(%s, %d, %+v): %+v %d, not %+v", sketch(b), top, o, got, why, want)
	}
}

// unchanged makes calls that must leave the file system as it is, its trace too.
func (h held) unchanged(what string, call func()) {
	h.t.Helper()
	image, trace := h.f.Image(), h.f.Trace()
	call()
	if !sameImage(image, h.f.Image()) || !slices.Equal(trace, h.f.Trace()) {
		h.t.Fatalf("%s: was %s, is %s", what, brief(image), brief(h.f.Image()))
	}
}

// sketch is an archive as what can be read of it.
func sketch(b string) string {
	items, at, why := reader.Read([]byte(b))
	text := ""
	for _, x := range items {
		e := x.Entry
		text += fmt.Sprintf("%d %.40q", e.Kind, e.Name)
		if e.Link != "" {
			text += fmt.Sprintf(" to %.40q", e.Link)
		}
		text += fmt.Sprintf(" of %d %+v, ", e.Size, e.Meta)
	}
	return fmt.Sprintf("{%s%d at %d of %d}", text, why, at, len(b))
}

// reach is the inodes of an image that are reached from top by entries, top among them; none, if it is not there.
func reach(image api.Image, top int) map[int]bool {
	entries := make(map[int][]api.Named)
	for _, n := range image.List {
		entries[n.Number] = n.Entries
	}
	seen := make(map[int]bool)
	for level := []int{top}; len(level) > 0; {
		var next []int
		for _, number := range level {
			list, there := entries[number]
			if !there || seen[number] {
				continue
			}
			seen[number] = true
			for _, e := range list {
				next = append(next, e.Node)
			}
		}
		level = next
	}
	return seen
}

// confined is P20.5: what of an old image must be as it was, and is not.
func confined(old, now api.Image, top int) string {
	in := reach(old, top)
	outside := make(map[int]bool)
	for _, n := range old.List {
		if !in[n.Number] {
			outside[n.Number] = true
		}
	}
	isDir := make(map[int]bool)
	for _, n := range old.List {
		isDir[n.Number] = n.Kind == api.Dir
	}
	for _, n := range old.List {
		for _, e := range n.Entries {
			if !in[n.Number] && !isDir[e.Node] {
				outside[e.Node] = true
			}
		}
	}
	is := make(map[int]api.Node)
	for _, n := range now.List {
		is[n.Number] = n
	}
	for _, n := range old.List {
		if x, there := is[n.Number]; outside[n.Number] && (!there || !sameNode(x, n)) {
			return fmt.Sprintf("%d is outside of %d, and is another one", n.Number, top)
		}
	}
	return ""
}

// followed is P20.6: the calls of the trace, one by one on what was there, so that each is seen at its time. What files hold and links point to plays no part.
func followed(old *vfs.FS, acts []api.Act, top int) string {
	f := old.Clone()
	for i, x := range acts {
		is, _ := f.Stat(x.Node)
		names := x.Op != api.OpWrite && x.Op != api.OpMeta
		switch {
		case names && !walk.Inside(f, top, x.Dir):
			return fmt.Sprintf("%d, %+v names a directory outside", i, x)
		case !names && !reach(f.Image(), top)[x.Node]:
			return fmt.Sprintf("%d, %+v changes what is outside", i, x)
		case is.Kind == api.Symlink && x.Op != api.OpUnlink:
			return fmt.Sprintf("%d, %+v changes a symbolic link", i, x)
		case !again(f, x):
			return fmt.Sprintf("%d, %+v can't be done again", i, x)
		}
	}
	return ""
}

// again makes a call of the trace.
func again(f *vfs.FS, x api.Act) bool {
	var why api.Errno
	node := x.Node
	switch x.Op {
	case api.OpMkdir:
		node, why = f.Mkdir(x.Dir, x.Name, api.Meta{})
	case api.OpCreate:
		node, why = f.Create(x.Dir, x.Name, api.Meta{})
	case api.OpSymlink:
		node, why = f.Symlink(x.Dir, x.Name, "target", api.Meta{})
	case api.OpLink:
		why = f.Link(x.Dir, x.Name, x.Node)
	case api.OpWrite:
		why = f.Write(x.Node, x.At, make([]byte, x.N))
	case api.OpMeta:
		why = f.Change(x.Node, api.Meta{})
	case api.OpUnlink:
		why = f.Unlink(x.Dir, x.Name)
	default:
		return false // nothing else is called
	}
	return why == api.OK && node == x.Node
}

// beyond is P20.7: what is more than the quota has.
func beyond(old, now *vfs.FS, acts []api.Act, top int, q api.Quota, report api.Report) string {
	if report.Done+report.Skipped > max(q.Entries, 0) {
		return "too many entries"
	}
	written := int64(0)
	for _, x := range acts {
		if x.Op == api.OpWrite {
			written += int64(x.N)
		}
	}
	if written > max(q.Bytes, 0) {
		return fmt.Sprintf("%d bytes were written", written)
	}
	next := old.Image().Next
	for _, x := range walk.All(now, top) {
		if x.Node >= next && len(x.Parts) > q.Depth {
			return fmt.Sprintf("%q was made too deep", x.Parts)
		}
	}
	return ""
}

// otherBeginning is P20.8: how what came of bytes that can't be read whole is not what comes of those that can.
func otherBeginning(b string, old, now *vfs.FS, acts []api.Act, top int, o api.Extraction, report api.Report, read bool) string {
	items, _, why := reader.Read([]byte(b))
	if why == api.OK {
		return ""
	}
	next := 0
	for _, x := range items {
		next = x.Next
	}
	f := old.Clone()
	got, why := extract.Extract([]byte(b[:next]+strings.Repeat("\x00", 512)), f, top, o)
	if read {
		report.Place, report.Cause = next, api.OK
	}
	if got != report || why != modelClass(report.Cause) {
		return fmt.Sprintf("its beginning comes to %+v %d", got, why)
	}
	if !sameImage(f.Image(), now.Image()) || !slices.Equal(f.Trace(), acts) {
		return "its beginning comes to " + brief(f.Image())
	}
	return ""
}
