package vfs

import (
	"strings"

	"satchel/api"
)

const (
	zero   = "\x00"
	second = 1_000_000_000 // nanoseconds
)

func isName(name string) bool {
	return fits(name, api.MaxName) && name != "." && name != ".." && !strings.Contains(name, "/")
}

func isTarget(target string) bool { return fits(target, api.MaxTarget) }

// fits is of a text that is there, is not too long and has no byte 0.
func fits(text string, most int) bool {
	return text != "" && len(text) <= most && !strings.Contains(text, zero)
}

func isMeta(m api.Meta) bool { return m.Mode <= 0o7777 && 0 <= m.Nano && m.Nano < second }
