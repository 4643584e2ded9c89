package vfs_test

import (
	"fmt"
	"slices"
	"strings"
	"testing"

	"satchel/api"
	"satchel/vfs"
)

// model is a file system as its image and its trace alone: all that is asked is found by going through lists.
type model struct {
	api.Image
	trace []api.Act
}

// call is a call and what it is handed; what it has no use for plays no part.
type call struct {
	what   string
	dir    int
	name   string
	to     int
	other  string
	node   int
	at, n  int
	data   string
	target string
	meta   api.Meta
}

// answer is what a call answers, those of all calls in one.
type answer struct {
	node int
	text string // bytes, or a target
	list string
	stat api.Stat
	why  api.Errno
}

// order is that of 10.2, in which errors are found.
var order = []api.Errno{
	api.ErrNode, api.ErrDir, api.ErrComponent, api.ErrTarget, api.ErrArg, api.ErrMissing,
	api.ErrThere, api.ErrKind, api.ErrLoop, api.ErrFull, api.ErrSpace,
}

const (
	lookup   = "Lookup"
	up       = "Up"
	list     = "List"
	stat     = "Stat"
	mkdir    = "Mkdir"
	create   = "Create"
	symlink  = "Symlink"
	link     = "Link"
	read     = "Read"
	write    = "Write"
	resize   = "Resize"
	readlink = "Readlink"
	change   = "Change"
	unlink   = "Unlink"
	rmdir    = "Rmdir"
	rename   = "Rename"
)

// ops are the mutating calls, and api's numbers of them.
var ops = map[string]int{
	mkdir: 1, create: 2, symlink: 3, link: 4, write: 5, resize: 6, unlink: 7, rmdir: 8, rename: 9, change: 10,
}

// isOf tells whether a call is one of these.
func (c call) isOf(whats ...string) bool { return slices.Contains(whats, c.what) }

// numbers are the inodes' numbers that a call is handed: those of directories, and of what may be anything.
func (c call) numbers() (dirs, others []int) {
	switch {
	case c.isOf(up, list):
		return []int{c.dir}, nil
	case c.isOf(stat, read, write, resize, readlink, change):
		return nil, []int{c.node}
	case c.isOf(link):
		return []int{c.dir}, []int{c.node}
	case c.isOf(rename):
		return []int{c.dir, c.to}, nil
	}
	return []int{c.dir}, nil
}

// names are the names that a call is handed.
func (c call) names() []string {
	switch {
	case c.isOf(up, list, stat, read, write, resize, readlink, change):
		return nil
	case c.isOf(rename):
		return []string{c.name, c.other}
	}
	return []string{c.name}
}

// do makes the call on a file system.
func (c call) do(f *vfs.FS) answer {
	var a answer
	switch c.what {
	case lookup:
		a.node, a.why = f.Lookup(c.dir, c.name)
	case up:
		a.node, a.why = f.Up(c.dir)
	case list:
		var l []api.Named
		l, a.why = f.List(c.dir)
		a.list = told(l)
	case stat:
		a.stat, a.why = f.Stat(c.node)
	case mkdir:
		a.node, a.why = f.Mkdir(c.dir, c.name, c.meta)
	case create:
		a.node, a.why = f.Create(c.dir, c.name, c.meta)
	case symlink:
		a.node, a.why = f.Symlink(c.dir, c.name, c.target, c.meta)
	case link:
		a.why = f.Link(c.dir, c.name, c.node)
	case read:
		var b []byte
		b, a.why = f.Read(c.node, c.at, c.n)
		a.text = string(b)
	case write:
		a.why = f.Write(c.node, c.at, []byte(c.data))
	case resize:
		a.why = f.Resize(c.node, c.n)
	case readlink:
		a.text, a.why = f.Readlink(c.node)
	case change:
		a.why = f.Change(c.node, c.meta)
	case unlink:
		a.why = f.Unlink(c.dir, c.name)
	case rmdir:
		a.why = f.Rmdir(c.dir, c.name)
	case rename:
		a.why = f.Rename(c.dir, c.name, c.to, c.other)
	}
	return a
}

// told is entries as a text, in the order in which they stand.
func told(l []api.Named) string {
	text := ""
	for _, e := range l {
		text += fmt.Sprintf("%q %d ", e.Name, e.Node)
	}
	return text
}

func canName(name string) bool {
	if len(name) < 1 || len(name) > 255 || name == "." || name == ".." {
		return false
	}
	return strings.IndexByte(name, 0) < 0 && strings.IndexByte(name, '/') < 0
}

func canTarget(target string) bool {
	return len(target) >= 1 && len(target) <= 4096 && strings.IndexByte(target, 0) < 0
}

func canMeta(m api.Meta) bool { return m.Mode <= 4095 && m.Nano >= 0 && m.Nano <= 999999999 }

func (m *model) inode(number int) *api.Node {
	for i := range m.List {
		if m.List[i].Number == number {
			return &m.List[i]
		}
	}
	return nil
}

// kind is an inode's kind, 0 of a number that none has.
func (m *model) kind(number int) int {
	if n := m.inode(number); n != nil {
		return n.Kind
	}
	return 0
}

// entry is the number that an entry names, 0 if there is none.
func (m *model) entry(dir int, name string) int {
	if n := m.inode(dir); n != nil {
		for _, e := range n.Entries {
			if e.Name == name {
				return e.Node
			}
		}
	}
	return 0
}

// namers are the directories whose entries name an inode, one of them for each entry.
func (m *model) namers(number int) []int {
	var dirs []int
	for _, n := range m.List {
		for _, e := range n.Entries {
			if e.Node == number {
				dirs = append(dirs, n.Number)
			}
		}
	}
	return dirs
}

// above is the directory whose entry names a directory.
func (m *model) above(dir int) int {
	if dirs := m.namers(dir); len(dirs) > 0 {
		return dirs[0]
	}
	return 1
}

// lies tells whether a directory is top or lies in it, or in one that does.
func (m *model) lies(dir, top int) bool {
	for dir != top {
		if dir == 1 {
			return false
		}
		dir = m.above(dir)
	}
	return true
}

func (m *model) held() int {
	sum := 0
	for _, n := range m.List {
		sum += len(n.Data)
	}
	return sum
}

// refused is the error of a call: of all that apply the one that is found first.
func (m *model) refused(c call) api.Errno {
	faults := make(map[api.Errno]bool)
	m.argFaults(c, faults)
	m.entryFaults(c, faults)
	m.roomFaults(c, faults)
	for _, why := range order {
		if faults[why] {
			return why
		}
	}
	return api.OK
}

func (m *model) argFaults(c call, faults map[api.Errno]bool) {
	dirs, others := c.numbers()
	for _, number := range append(slices.Clone(dirs), others...) {
		if m.inode(number) == nil {
			faults[api.ErrNode] = true
		}
	}
	for _, dir := range dirs {
		if k := m.kind(dir); k != 0 && k != api.Dir {
			faults[api.ErrDir] = true
		}
	}
	for _, name := range c.names() {
		if !canName(name) {
			faults[api.ErrComponent] = true
		}
	}
	if c.isOf(symlink) && !canTarget(c.target) {
		faults[api.ErrTarget] = true
	}
	const most = 4194304
	if c.isOf(mkdir, create, symlink, change) && !canMeta(c.meta) ||
		c.isOf(read) && (c.at < 0 || c.n < 0) ||
		c.isOf(write) && (c.at < 0 || c.at > most || len(c.data) > most-c.at) ||
		c.isOf(resize) && (c.n < 0 || c.n > most) {
		faults[api.ErrArg] = true
	}
}

func (m *model) entryFaults(c call, faults map[api.Errno]bool) {
	there := m.entry(c.dir, c.name)
	if c.isOf(lookup, unlink, rmdir, rename) && there == 0 {
		faults[api.ErrMissing] = true
	}
	if c.isOf(mkdir, create, symlink, link) && there != 0 {
		faults[api.ErrThere] = true
	}
	isDir := m.kind(there) == api.Dir
	if c.isOf(link) && m.kind(c.node) == api.Dir ||
		c.isOf(read, write, resize) && m.kind(c.node) != api.File ||
		c.isOf(readlink) && m.kind(c.node) != api.Symlink ||
		c.isOf(unlink) && there != 0 && isDir ||
		c.isOf(rmdir) && there != 0 && !isDir {
		faults[api.ErrKind] = true
	}
	if c.isOf(rmdir) && isDir && len(m.inode(there).Entries) > 0 {
		faults[api.ErrFull] = true
	}
	y := m.entry(c.to, c.other)
	if c.isOf(rename) && there != 0 && there != y && m.kind(c.to) == api.Dir {
		if y != 0 && isDir != (m.kind(y) == api.Dir) {
			faults[api.ErrKind] = true
		}
		if isDir && m.lies(c.to, there) {
			faults[api.ErrLoop] = true
		}
		if m.kind(y) == api.Dir && len(m.inode(y).Entries) > 0 {
			faults[api.ErrFull] = true
		}
	}
}

func (m *model) roomFaults(c call, faults map[api.Errno]bool) {
	if c.isOf(mkdir, create, symlink) && (len(m.List) == m.Nodes || m.Next == 1<<40) {
		faults[api.ErrSpace] = true
	}
	if n := m.inode(c.node); n != nil && n.Kind == api.File {
		rest := m.held() - len(n.Data)
		if c.isOf(resize) && rest+c.n > m.Bytes ||
			c.isOf(write) && len(c.data) > 0 && rest+max(len(n.Data), c.at+len(c.data)) > m.Bytes {
			faults[api.ErrSpace] = true
		}
	}
}

// do makes the call on the model.
func (m *model) do(c call) answer {
	if why := m.refused(c); why != api.OK {
		return answer{why: why}
	}
	var a answer
	node := c.node
	if c.isOf(unlink, rmdir, rename) {
		node = m.entry(c.dir, c.name)
	}
	switch c.what {
	case lookup:
		a.node = m.entry(c.dir, c.name)
	case up:
		a.node = m.above(c.dir)
	case list:
		a.list = told(m.inode(c.dir).Entries)
	case stat:
		n := m.inode(c.node)
		size := len(n.Data) + len(n.Target) + len(n.Entries)
		a.stat = api.Stat{Node: c.node, Kind: n.Kind, Meta: n.Meta, Links: max(1, len(m.namers(c.node))), Size: size}
	case mkdir, create, symlink:
		node = m.made(c)
		a.node = node
	case link:
		m.put(c.dir, c.name, c.node)
	case read:
		if data := string(m.inode(c.node).Data); c.at < len(data) {
			a.text = data[c.at:]
		}
		if c.n < len(a.text) {
			a.text = a.text[:c.n]
		}
	case write:
		m.write(m.inode(c.node), c.at, c.data)
	case resize:
		n := m.inode(c.node)
		data := make([]byte, c.n)
		copy(data, n.Data)
		n.Data = data
	case readlink:
		a.text = m.inode(c.node).Target
	case change:
		m.inode(c.node).Meta = c.meta
	case unlink, rmdir:
		m.takeAway(c.dir, c.name)
	case rename:
		m.rename(c)
	}
	m.keep(c, node)
	return a
}

// keep keeps the Act of a mutating call.
func (m *model) keep(c call, node int) {
	op := ops[c.what]
	if op == 0 {
		return
	}
	act := api.Act{Op: op, Node: node}
	switch {
	case c.isOf(write):
		act.At, act.N = c.at, len(c.data)
	case c.isOf(resize):
		act.N = c.n
	case c.isOf(mkdir, create, symlink, link, unlink, rmdir, rename):
		act.Dir, act.Name = c.dir, c.name
	}
	if c.isOf(rename) {
		act.To, act.Other = c.to, c.other
	}
	m.trace = append(m.trace, act)
}

func (m *model) made(c call) int {
	number := m.Next
	n := api.Node{Number: number, Meta: c.meta}
	switch c.what {
	case mkdir:
		n.Kind = api.Dir
	case create:
		n.Kind = api.File
	case symlink:
		n.Kind, n.Target = api.Symlink, c.target
	}
	m.List = append(m.List, n)
	m.Next++
	m.put(c.dir, c.name, number)
	return number
}

func (m *model) put(dir int, name string, node int) {
	n := m.inode(dir)
	i := 0
	for i < len(n.Entries) && n.Entries[i].Name < name {
		i++
	}
	n.Entries = slices.Insert(slices.Clone(n.Entries), i, api.Named{Name: name, Node: node})
}

func (m *model) write(n *api.Node, at int, data string) {
	if data == "" {
		return
	}
	b := slices.Clone(n.Data)
	for len(b) < at+len(data) {
		b = append(b, 0)
	}
	copy(b[at:], data)
	n.Data = b
}

// drop takes an entry away, and nothing else.
func (m *model) drop(dir int, name string) {
	n := m.inode(dir)
	n.Entries = slices.DeleteFunc(slices.Clone(n.Entries), func(e api.Named) bool { return e.Name == name })
}

// takeAway takes an entry away, and the inode if no entry names it any more.
func (m *model) takeAway(dir int, name string) {
	node := m.entry(dir, name)
	m.drop(dir, name)
	if len(m.namers(node)) == 0 {
		m.List = slices.DeleteFunc(slices.Clone(m.List), func(n api.Node) bool { return n.Number == node })
	}
}

func (m *model) rename(c call) {
	x, y := m.entry(c.dir, c.name), m.entry(c.to, c.other)
	if x == y {
		return
	}
	m.drop(c.dir, c.name)
	if y != 0 {
		m.takeAway(c.to, c.other)
	}
	m.put(c.to, c.other, x)
}

// copied is an image that shares nothing with the first one.
func copied(x api.Image) api.Image {
	x.List = slices.Clone(x.List)
	for i := range x.List {
		x.List[i].Data = slices.Clone(x.List[i].Data)
		x.List[i].Entries = slices.Clone(x.List[i].Entries)
	}
	return x
}

func (m *model) clone() *model {
	return &model{Image: copied(m.Image), trace: slices.Clone(m.trace)}
}

// sameImage tells whether two images are the same; nil and empty lists are alike.
func sameImage(x, y api.Image) bool {
	return x.Nodes == y.Nodes && x.Bytes == y.Bytes && x.Next == y.Next && slices.EqualFunc(x.List, y.List, func(a, b api.Node) bool {
		return a.Number == b.Number && a.Kind == b.Kind && a.Meta == b.Meta && a.Target == b.Target &&
			string(a.Data) == string(b.Data) && slices.Equal(a.Entries, b.Entries)
	})
}

// brief is a call or an image as a text that is not too long for a test to tell.
func brief(x any) string {
	text := fmt.Sprintf("%+q", fmt.Sprintf("%+v", x))
	return text[:min(len(text), 600)]
}

// both is a file system and the model that goes along.
type both struct {
	t *testing.T
	f *vfs.FS
	m *model
}

func newBoth(t *testing.T, nodes, bytes int) both {
	t.Helper()
	f, why := vfs.New(nodes, bytes)
	if f == nil || why != api.OK {
		t.Fatalf("New(%d, %d): %d", nodes, bytes, why)
	}
	b := both{t, f, &model{Image: api.Image{Nodes: nodes, Bytes: bytes, Next: 2, List: []api.Node{{Number: 1, Kind: 1}}}}}
	b.held(call{what: "New"})
	return b
}

// loaded is the file system that an image is, and its model.
func loaded(t *testing.T, x api.Image) both {
	t.Helper()
	f, why := vfs.Load(x)
	if f == nil || why != api.OK {
		t.Fatalf("Load(%s): %d", brief(x), why)
	}
	return both{t, f, &model{Image: copied(x)}}
}

// do holds a call to the model: what it answers, and what came of it.
func (b both) do(c call) answer {
	b.t.Helper()
	a := b.only(c)
	b.held(c)
	return a
}

// only holds what a call answers to the model.
func (b both) only(c call) answer {
	b.t.Helper()
	before := b.m.Image
	want := b.m.do(c)
	if got := c.do(b.f); got != want {
		b.t.Fatalf("%s of %s: %s, not %s", brief(c), brief(before), brief(got), brief(want))
	}
	return want
}

// held holds the image, the trace and the room to the model.
func (b both) held(c call) {
	b.t.Helper()
	x := b.f.Image()
	if !sameImage(x, b.m.Image) {
		b.t.Fatalf("%s came to %s, not %s", brief(c), brief(x), brief(b.m.Image))
	}
	if !vfs.Valid(x) || !canImage(x) {
		b.t.Fatalf("%s came to what can't be: %s", brief(c), brief(x))
	}
	if trace := b.f.Trace(); !slices.Equal(trace, b.m.trace) {
		b.t.Fatalf("%s: traced %s, not %s", brief(c), brief(trace), brief(b.m.trace))
	}
	nodes, bytes := b.f.Free()
	if nodes != b.m.Nodes-len(b.m.List) || bytes != b.m.Bytes-b.m.held() {
		b.t.Fatalf("%s: there is room for %d and %d in %s", brief(c), nodes, bytes, brief(b.m.Image))
	}
}

// ok holds a call to the model that must be done, and answers the number.
func (b both) ok(c call) int {
	b.t.Helper()
	return b.whys(c, api.OK).node
}

// whys holds a call to the model and to the error that it must have.
func (b both) whys(c call, why api.Errno) answer {
	b.t.Helper()
	a := b.do(c)
	if a.why != why {
		b.t.Fatalf("%s of %s: %d, not %d", brief(c), brief(b.m.Image), a.why, why)
	}
	return a
}

// all holds all calls that change nothing to the model.
func (b both) all() {
	b.t.Helper()
	for number := -1; number <= b.m.Next && number < 100; number++ {
		for _, what := range []string{up, list, stat, readlink} {
			b.only(call{what: what, dir: number, node: number})
		}
		b.only(call{what: read, node: number, n: 1 << 22})
	}
	for _, n := range b.m.List {
		for _, e := range n.Entries {
			b.only(call{what: lookup, dir: n.Number, name: e.Name})
		}
	}
	b.held(call{what: "all that change nothing"})
}

// canImage is 10.1's 'can be', sentence by sentence.
func canImage(x api.Image) bool {
	if x.Nodes < 1 || x.Nodes > 4096 || x.Bytes < 0 || x.Bytes > 4194304 || x.Next < 2 || x.Next > 1<<40 {
		return false
	}
	if len(x.List) == 0 || len(x.List) > x.Nodes || x.List[0].Number != 1 || x.List[0].Kind != api.Dir {
		return false
	}
	m := &model{Image: x}
	for i, n := range x.List {
		if i > 0 && n.Number <= x.List[i-1].Number || n.Number >= x.Next || !canNode(n) {
			return false
		}
		for _, e := range n.Entries {
			if m.inode(e.Node) == nil || e.Node == 1 {
				return false
			}
		}
		named := len(m.namers(n.Number))
		if n.Number != 1 && (named == 0 || n.Kind == api.Dir && named != 1) {
			return false
		}
	}
	return m.held() <= x.Bytes && len(m.reached()) == len(x.List)
}

func canNode(n api.Node) bool {
	if n.Kind < 1 || n.Kind > 3 || !canMeta(n.Meta) || len(n.Data) > 4194304 {
		return false
	}
	if len(n.Data) > 0 && n.Kind != api.File || n.Target != "" && n.Kind != api.Symlink || len(n.Entries) > 0 && n.Kind != api.Dir {
		return false
	}
	if n.Kind == api.Symlink && !canTarget(n.Target) {
		return false
	}
	for i, e := range n.Entries {
		if !canName(e.Name) || i > 0 && e.Name <= n.Entries[i-1].Name {
			return false
		}
	}
	return true
}

// reached are the inodes that are reached from the root: more of them till there are no more.
func (m *model) reached() map[int]bool {
	is := map[int]bool{1: true}
	for more := true; more; {
		more = false
		for _, n := range m.List {
			for _, e := range n.Entries {
				if is[n.Number] && !is[e.Node] {
					is[e.Node], more = true, true
				}
			}
		}
	}
	return is
}
