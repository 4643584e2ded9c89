package vfs

import "bytes"

// pair is an inode of one file system and one of another that are to be the same but for their numbers. No inode has the number 0, so that the zero pair is none.
type pair struct{ one, other int }

// Alike tells whether the trees under two directories are one but for the inodes' numbers.
func Alike(f *FS, a int, g *FS, b int) bool {
	if !f.isDir(a) || !g.isDir(b) {
		return false
	}
	ones, others := make(map[int]pair), make(map[int]pair) // by an inode's number the pair that it is in
	todo := []pair{{a, b}}
	for len(todo) > 0 {
		p := todo[len(todo)-1]
		todo = todo[:len(todo)-1]
		one, other := ones[p.one], others[p.other]
		if one == p {
			continue // and other is p, too
		}
		if one != (pair{}) || other != (pair{}) {
			return false // one of them is in another pair
		}
		ones[p.one], others[p.other] = p, p
		x, y := f.inodes[p.one], g.inodes[p.other]
		if !same(x, y) {
			return false
		}
		for name, node := range x.entries {
			todo = append(todo, pair{node, y.entries[name]})
		}
	}
	return true
}

// same tells whether two inodes are alike, whatever their entries lead to.
func same(x, y *inode) bool {
	if x.kind != y.kind || x.meta != y.meta || x.target != y.target || !bytes.Equal(x.data, y.data) {
		return false
	}
	for name := range x.entries {
		if _, there := y.entries[name]; !there {
			return false
		}
	}
	return len(x.entries) == len(y.entries)
}
