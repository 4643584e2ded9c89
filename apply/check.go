package apply

import (
	"strings"

	"satchel/api"
	"satchel/path"
)

const (
	modeBits = 0o7777
	second   = 1_000_000_000 // nanoseconds
	zero     = "\x00"
)

// names is where an entry goes, and of a hard link where the file is that it names: components, from the top.
type names struct {
	dir  []string
	last string
	link []string
}

// checked is an entry's names, or what is wrong with it by itself.
func checked(e api.Entry, data []byte, p api.Policy) (names, api.Errno) {
	if !isThere(p.There) {
		return names{}, api.ErrArg
	}
	parts, why := path.Split(e.Name)
	switch {
	case why != api.OK:
		return names{}, why
	case !isBroughtOut(e.Kind):
		return names{}, api.ErrOdd
	case !canBe(masked(e.Meta, p)):
		return names{}, api.ErrArg
	}
	end := len(parts) - 1 // Split answers OK of some components alone
	n := names{dir: parts[:end], last: parts[end]}
	switch e.Kind {
	case api.File:
		if e.Size != int64(len(data)) {
			why = api.ErrBytes
		}
	case api.Symlink:
		why = targetFault(n.dir, e.Link, p)
	case api.HardLink:
		n.link, why = path.Split(e.Link)
	}
	if why != api.OK {
		return names{}, why
	}
	return n, api.OK
}

func isThere(there int) bool {
	return there == api.Keep || there == api.Replace || there == api.Skip
}

func isBroughtOut(kind int) bool {
	switch kind {
	case api.Dir, api.File, api.Symlink, api.HardLink:
		return true
	}
	return false
}

// masked is an entry's meta without the bits that the policy takes away.
func masked(m api.Meta, p api.Policy) api.Meta {
	m.Mode &^= p.Mask
	return m
}

// canBe is of a meta that the file system takes.
func canBe(m api.Meta) bool {
	return m.Mode <= modeBits && m.Nano >= 0 && m.Nano < second
}

// targetFault is what is wrong with the target of a symbolic link in the directory dir.
func targetFault(dir []string, target string, p api.Policy) api.Errno {
	switch {
	case target == "" || len(target) > api.MaxTarget || strings.Contains(target, zero):
		return api.ErrTarget
	case !p.Leaving && path.Leaves(dir, target):
		return api.ErrUnsafe
	}
	return api.OK
}
