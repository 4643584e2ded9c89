package apply_test

import (
	"fmt"
	"slices"
	"strings"
	"testing"

	"satchel/api"
	"satchel/apply"
	"satchel/vfs"
	"satchel/walk"
)

// modelSplit is a name's components, or why it is refused: P9.1, in the order of its words.
func modelSplit(name string) ([]string, api.Errno) {
	var parts []string
	dots, long := false, false
	for _, piece := range strings.Split(name, "/") {
		dots = dots || piece == ".."
		long = long || len(piece) > 255
		if piece != "" && piece != "." {
			parts = append(parts, piece)
		}
	}
	faults := []struct {
		is  bool
		why api.Errno
	}{
		{len(name) > 4096, api.ErrLong},
		{strings.Contains(name, "\x00"), api.ErrZero},
		{strings.HasPrefix(name, "/"), api.ErrAbsolute},
		{dots, api.ErrDots},
		{len(parts) == 0, api.ErrEmpty},
		{long, api.ErrName},
		{len(parts) > 256, api.ErrDeep},
	}
	for _, x := range faults {
		if x.is {
			return nil, x.why
		}
	}
	return parts, api.OK
}

// modelLeaves is P9.5: the way that a target goes, step by step, from so deep.
func modelLeaves(depth int, target string) bool {
	if target != "" && target[0] == '/' {
		return true
	}
	for _, piece := range strings.Split(target, "/") {
		if piece == ".." {
			if depth == 0 {
				return true
			}
			depth--
		} else if piece != "" && piece != "." {
			depth++
		}
	}
	return false
}

// modelMeta is an entry's meta: bit by bit those of the mode that the mask has not.
func modelMeta(e api.Entry, p api.Policy) api.Meta {
	m := e.Meta
	m.Mode = 0
	for i := range 32 {
		if bit := uint32(1) << i; e.Meta.Mode&bit != 0 && p.Mask&bit == 0 {
			m.Mode += bit
		}
	}
	return m
}

// modelCheck is P19.1: all faults in their order, of which the first one that is there counts.
func modelCheck(e api.Entry, data []byte, p api.Policy) api.Errno {
	parts, nameFault := modelSplit(e.Name)
	_, linkFault := modelSplit(e.Link)
	m := modelMeta(e, p)
	is := func(kind int) bool { return e.Kind == kind }
	faults := []struct {
		is  bool
		why api.Errno
	}{
		{p.There != 0 && p.There != 1 && p.There != 2, api.ErrArg},
		{nameFault != api.OK, nameFault},
		{!is(api.Dir) && !is(api.File) && !is(api.Symlink) && !is(api.HardLink), api.ErrOdd},
		{m.Mode > 4095 || m.Nano < 0 || m.Nano > 999999999, api.ErrArg},
		{is(api.File) && e.Size != int64(len(data)), api.ErrBytes},
		{is(api.Symlink) && (len(e.Link) < 1 || len(e.Link) > 4096 || strings.Contains(e.Link, "\x00")), api.ErrTarget},
		{is(api.Symlink) && !p.Leaving && modelLeaves(len(parts)-1, e.Link), api.ErrUnsafe},
		{is(api.HardLink) && linkFault != api.OK, linkFault},
	}
	for _, x := range faults {
		if x.is {
			return x.why
		}
	}
	return api.OK
}

// model is a file system as its image alone: all that is asked is found by going through lists.
type model struct {
	api.Image
	acts []api.Act
}

func modelOf(f *vfs.FS) *model { return &model{Image: f.Image()} }

func (m *model) at(number int) *api.Node {
	for i := range m.List {
		if m.List[i].Number == number {
			return &m.List[i]
		}
	}
	return nil
}

// kind is an inode's kind; 0, if there is none.
func (m *model) kind(number int) int {
	if n := m.at(number); n != nil {
		return n.Kind
	}
	return 0
}

// entry is what a directory's entry of a name names; 0, if it has none.
func (m *model) entry(dir int, name string) int {
	for _, e := range m.at(dir).Entries {
		if e.Name == name {
			return e.Node
		}
	}
	return 0
}

// namers are the directories whose entries name an inode, one for each entry.
func (m *model) namers(number int) []int {
	var dirs []int
	for _, n := range m.List {
		for _, e := range n.Entries {
			if e.Node == number {
				dirs = append(dirs, n.Number)
			}
		}
	}
	return dirs
}

// reach is the inodes that are reached from top by entries, top among them; none, if it is not there.
func (m *model) reach(top int) map[int]bool {
	seen := make(map[int]bool)
	for level := []int{top}; len(level) > 0; {
		var next []int
		for _, number := range level {
			n := m.at(number)
			if n == nil || seen[number] {
				continue
			}
			seen[number] = true
			for _, e := range n.Entries {
				next = append(next, e.Node)
			}
		}
		level = next
	}
	return seen
}

func (m *model) put(dir int, name string, node int) {
	n := m.at(dir)
	n.Entries = append(slices.Clone(n.Entries), api.Named{Name: name, Node: node})
	slices.SortFunc(n.Entries, func(a, b api.Named) int { return strings.Compare(a.Name, b.Name) })
}

// made is what Mkdir, Create and Symlink do, of a name that no entry has and of what can be.
func (m *model) made(op, dir int, name string, n api.Node) (int, api.Errno) {
	if len(m.List) >= m.Nodes || m.Next >= 1<<40 {
		return 0, api.ErrSpace
	}
	n.Number = m.Next
	m.Next++
	m.List = append(m.List, n)
	m.put(dir, name, n.Number)
	m.acts = append(m.acts, api.Act{Op: op, Dir: dir, Name: name, Node: n.Number})
	return n.Number, api.OK
}

func (m *model) written(node int, data []byte) api.Errno {
	sum := len(data)
	for _, n := range m.List {
		sum += len(n.Data)
	}
	switch {
	case len(data) > 1<<22:
		return api.ErrArg
	case sum > m.Bytes:
		return api.ErrSpace
	}
	m.at(node).Data = slices.Clone(data)
	m.acts = append(m.acts, api.Act{Op: api.OpWrite, Node: node, N: len(data)})
	return api.OK
}

func (m *model) unlinked(dir int, name string) {
	node := m.entry(dir, name)
	n := m.at(dir)
	n.Entries = slices.DeleteFunc(slices.Clone(n.Entries), func(e api.Named) bool { return e.Name == name })
	if len(m.namers(node)) == 0 {
		m.List = slices.DeleteFunc(m.List, func(n api.Node) bool { return n.Number == node })
	}
	m.acts = append(m.acts, api.Act{Op: api.OpUnlink, Dir: dir, Name: name, Node: node})
}

// topFault is why nothing can be found in top.
func (m *model) topFault(top int) api.Errno {
	return map[int]api.Errno{0: api.ErrOutside, api.Dir: api.OK, api.File: api.ErrNotDir, api.Symlink: api.ErrNotDir}[m.kind(top)]
}

// wayFault is why no way leads through an inode.
func (m *model) wayFault(node int) api.Errno {
	return map[int]api.Errno{0: api.ErrNone, api.Dir: api.OK, api.File: api.ErrNotDir, api.Symlink: api.ErrInWay}[m.kind(node)]
}

// find is P11.1, from a directory.
func (m *model) find(top int, parts []string) (int, api.Errno) {
	place := top
	for i, part := range parts {
		node := m.entry(place, part)
		if node == 0 {
			return 0, api.ErrNone
		}
		if why := m.wayFault(node); why != api.OK && i+1 < len(parts) {
			return 0, why
		}
		place = node
	}
	return place, api.OK
}

// directory is the directory of P19.2, and how many were made.
func (m *model) directory(top int, parts []string, parents bool) (int, int, api.Errno) {
	made := 0
	for _, part := range parts {
		node := m.entry(top, part)
		if node == 0 && parents {
			var why api.Errno
			node, why = m.made(api.OpMkdir, top, part, api.Node{Kind: api.Dir, Meta: api.Meta{Mode: 493}})
			if why != api.OK {
				return 0, made, why
			}
			made++
		}
		if why := m.wayFault(node); why != api.OK {
			return 0, made, why
		}
		top = node
	}
	return top, made, api.OK
}

// apply is P19.2, in the order of its words.
func (m *model) apply(top int, e api.Entry, data []byte, p api.Policy) (api.Done, api.Errno) {
	none := api.Done{}
	if why := modelCheck(e, data, p); why != api.OK {
		return none, why
	}
	if why := m.topFault(top); why != api.OK {
		return none, why
	}
	parts, _ := modelSplit(e.Name)
	last := parts[len(parts)-1]
	dir, made, why := m.directory(top, parts[:len(parts)-1], p.Parents)
	if why != api.OK {
		return none, why
	}
	file := -1
	if e.Kind == api.HardLink {
		link, _ := modelSplit(e.Link)
		if file, why = m.find(top, link); why != api.OK {
			return none, why
		}
		if m.kind(file) != api.File {
			return none, api.ErrLink
		}
	}
	there := m.entry(dir, last)
	switch {
	case there == 0:
		node, why := m.entered(dir, last, file, e, data, p)
		if why != api.OK {
			return none, why
		}
		return api.Done{Node: node, Made: made}, api.OK
	case p.There == api.Skip: // whatever is there, it is left out
		return api.Done{Made: made, Skipped: true}, api.OK
	case there == file:
		return api.Done{Node: file, Made: made}, api.OK
	case e.Kind == api.Dir && m.kind(there) == api.Dir:
		m.at(there).Meta = modelMeta(e, p)
		m.acts = append(m.acts, api.Act{Op: api.OpMeta, Node: there})
		return api.Done{Node: there, Made: made}, api.OK
	case p.There == api.Keep:
		return none, api.ErrThere
	case m.kind(there) == api.Dir:
		return none, api.ErrThere
	}
	m.unlinked(dir, last)
	node, why := m.entered(dir, last, file, e, data, p)
	if why != api.OK {
		return none, why
	}
	return api.Done{Node: node, Made: made, Replaced: true}, api.OK
}

// entered is the entry, made where nothing is.
func (m *model) entered(dir int, last string, file int, e api.Entry, data []byte, p api.Policy) (int, api.Errno) {
	meta := modelMeta(e, p)
	switch e.Kind {
	case api.Dir:
		return m.made(api.OpMkdir, dir, last, api.Node{Kind: api.Dir, Meta: meta})
	case api.Symlink:
		return m.made(api.OpSymlink, dir, last, api.Node{Kind: api.Symlink, Meta: meta, Target: e.Link})
	case api.HardLink:
		m.put(dir, last, file)
		m.acts = append(m.acts, api.Act{Op: api.OpLink, Dir: dir, Name: last, Node: file})
		return file, api.OK
	}
	node, why := m.made(api.OpCreate, dir, last, api.Node{Kind: api.File, Meta: meta})
	if why == api.OK && len(data) > 0 {
		why = m.written(node, data)
	}
	return node, why
}

// brief is a value as a text that is not too long to be looked at.
func brief(x any) string {
	text := fmt.Sprintf("%+v", x)
	if len(text) > 1500 {
		return text[:1500] + " .."
	}
	return text
}

func sameNode(a, b api.Node) bool {
	return a.Number == b.Number && a.Kind == b.Kind && a.Meta == b.Meta && a.Target == b.Target &&
		string(a.Data) == string(b.Data) && slices.Equal(a.Entries, b.Entries)
}

func sameImage(a, b api.Image) bool {
	return a.Nodes == b.Nodes && a.Bytes == b.Bytes && a.Next == b.Next && slices.EqualFunc(a.List, b.List, sameNode)
}

// held is a file system on which each call is held to the model and to what the chapter says that it comes to.
type held struct {
	t *testing.T
	f *vfs.FS
}

// apply brings an entry out, and holds it to all promises.
func (h held) apply(top int, e api.Entry, data []byte, p api.Policy) (api.Done, api.Errno) {
	h.t.Helper()
	old, m, trace := modelOf(h.f), modelOf(h.f), h.f.Trace()
	done, why := apply.Apply(h.f, top, e, data, p)
	want, e2 := m.apply(top, e, data, p)
	told := func() string {
		return fmt.Sprintf("Apply(%d, %s, %.20q, %+v) of %s", top, brief(e), data, p, brief(old.Image))
	}
	if done != want || why != e2 {
		h.t.Fatalf("%s: %+v %d, not %+v %d", told(), done, why, want, e2)
	}
	now := modelOf(h.f)
	if !sameImage(now.Image, m.Image) {
		h.t.Fatalf("%s: %s, not %s", told(), brief(now.Image), brief(m.Image))
	}
	acts := h.f.Trace()
	if len(acts) < len(trace) || !slices.Equal(acts[:len(trace)], trace) || !slices.Equal(acts[len(trace):], m.acts) {
		h.t.Fatalf("%s: did %+v, not %+v", told(), acts, m.acts)
	}
	acts = acts[len(trace):]
	for _, fault := range []string{
		zeroWithError(done, why),
		confined(old, now, top),
		followed(old, acts, top, e, data, p),
		untold(h.f, top, e, data, done, why),
		notKept(old, now, p),
	} {
		if fault != "" {
			h.t.Fatalf("%s: %s", told(), fault)
		}
	}
	return done, why
}

// whys brings an entry out, which must have that error.
func (h held) whys(top int, e api.Entry, data []byte, p api.Policy, want api.Errno) {
	h.t.Helper()
	if done, why := h.apply(top, e, data, p); why != want {
		h.t.Errorf("Apply(%d, %s, %+v): %+v %d, not %d", top, brief(e), p, done, why, want)
	}
}

// ok brings an entry out, which must come to that.
func (h held) ok(top int, e api.Entry, data []byte, p api.Policy, want api.Done) {
	h.t.Helper()
	if done, why := h.apply(top, e, data, p); why != api.OK || done != want {
		h.t.Errorf("Apply(%d, %s, %+v): %+v %d, not %+v", top, brief(e), p, done, why, want)
	}
}

// unchanged makes calls that must leave the file system as it is, its trace too.
func (h held) unchanged(what string, call func()) {
	h.t.Helper()
	image, trace := h.f.Image(), h.f.Trace()
	call()
	if !sameImage(image, h.f.Image()) || !slices.Equal(trace, h.f.Trace()) {
		h.t.Fatalf("%s: was %s, is %s", what, brief(image), brief(h.f.Image()))
	}
}

func zeroWithError(done api.Done, why api.Errno) string {
	if why != api.OK && done != (api.Done{}) {
		return fmt.Sprintf("%+v with the error %d", done, why)
	}
	return ""
}

// confined is P19.4: what of an old image must be as it was, and is not.
func confined(old, now *model, top int) string {
	reach := old.reach(top)
	for _, n := range old.List {
		outside := !reach[n.Number]
		if n.Kind != api.Dir {
			for _, dir := range old.namers(n.Number) {
				outside = outside || !reach[dir]
			}
		}
		if !outside {
			continue
		}
		if x := now.at(n.Number); x == nil || !sameNode(*x, n) {
			return fmt.Sprintf("%d is outside of %d, and is another one", n.Number, top)
		}
	}
	return ""
}

// followed is P19.5: the calls of the trace, one by one on what was there, so that each is seen at its time.
func followed(old *model, acts []api.Act, top int, e api.Entry, data []byte, p api.Policy) string {
	f, why := vfs.Load(old.Image)
	if why != api.OK {
		return "an image that can't be"
	}
	for i, x := range acts {
		before := modelOf(f)
		is, _ := f.Stat(x.Node)
		names := !slices.Contains([]int{api.OpWrite, api.OpResize, api.OpMeta}, x.Op)
		switch {
		case names && !walk.Inside(f, top, x.Dir):
			return fmt.Sprintf("%+v names a directory outside", x)
		case !names && !before.reach(top)[x.Node]:
			return fmt.Sprintf("%+v changes what is outside", x)
		case is.Kind == api.Symlink && x.Op != api.OpUnlink:
			return fmt.Sprintf("%+v changes a symbolic link", x)
		case !again(f, x, i == len(acts)-1 || x.Op == api.OpCreate, e, data, modelMeta(e, p)):
			return fmt.Sprintf("%+v can't be done again", x)
		}
		if other := otherLink(before, modelOf(f)); other != 0 && (x.Op != api.OpUnlink || x.Node != other) {
			return fmt.Sprintf("%+v changes the symbolic link %d", x, other)
		}
	}
	return ""
}

// otherLink is a symbolic link that one call made another one, or took away.
func otherLink(before, after *model) int {
	for _, n := range before.List {
		if x := after.at(n.Number); n.Kind == api.Symlink && (x == nil || !sameNode(*x, n)) {
			return n.Number
		}
	}
	return 0
}

// again makes a call of the trace: the directories ahead of an entry are not its own.
func again(f *vfs.FS, x api.Act, own bool, e api.Entry, data []byte, meta api.Meta) bool {
	var why api.Errno
	node := x.Node
	switch x.Op {
	case api.OpMkdir:
		if !own || e.Kind != api.Dir {
			meta = api.Meta{Mode: 493}
		}
		node, why = f.Mkdir(x.Dir, x.Name, meta)
	case api.OpCreate:
		node, why = f.Create(x.Dir, x.Name, meta)
	case api.OpSymlink:
		node, why = f.Symlink(x.Dir, x.Name, e.Link, meta)
	case api.OpLink:
		why = f.Link(x.Dir, x.Name, x.Node)
	case api.OpWrite:
		why = f.Write(x.Node, x.At, data)
	case api.OpMeta:
		why = f.Change(x.Node, meta)
	case api.OpUnlink:
		why = f.Unlink(x.Dir, x.Name)
	default:
		return false // nothing else is called
	}
	return why == api.OK && node == x.Node
}

// untold is P19.6: what is not there as it is told.
func untold(f *vfs.FS, top int, e api.Entry, data []byte, done api.Done, why api.Errno) string {
	if why != api.OK {
		return ""
	}
	if done.Skipped {
		if done != (api.Done{Skipped: true}) {
			return fmt.Sprintf("left out, and %+v", done)
		}
		return ""
	}
	parts, _ := modelSplit(e.Name)
	node, _, why := walk.Find(f, top, parts)
	if why != api.OK || node != done.Node {
		return fmt.Sprintf("found %d %d, not %d", node, why, done.Node)
	}
	kind := e.Kind
	if kind == api.HardLink {
		kind = api.File
	}
	is, _ := f.Stat(node)
	if is.Kind != kind {
		return fmt.Sprintf("it is of the kind %d", is.Kind)
	}
	if b, _ := f.Read(node, 0, api.MaxFile); e.Kind == api.File && string(b) != string(data) {
		return fmt.Sprintf("it has the bytes %.20q", b)
	}
	return ""
}

// notKept is P19.7: what was there and is another one, with Keep; a directory may have more entries.
func notKept(old, now *model, p api.Policy) string {
	if p.There != api.Keep {
		return ""
	}
	for _, n := range old.List {
		x := now.at(n.Number)
		if x == nil {
			return fmt.Sprintf("%d is gone", n.Number)
		}
		is := *x
		if n.Kind == api.Dir {
			is.Meta = n.Meta
			is.Entries = slices.DeleteFunc(slices.Clone(is.Entries), func(e api.Named) bool { return !slices.Contains(n.Entries, e) })
		}
		if !sameNode(is, n) {
			return fmt.Sprintf("%d was %s, is %s", n.Number, brief(n), brief(is))
		}
	}
	return ""
}
