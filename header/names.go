package header

import (
	"strings"

	"satchel/api"
)

const slash = "/"

// Name is the whole name that a header has.
func Name(h api.Header) string {
	if h.Prefix == "" {
		return h.Name
	}
	return h.Prefix + slash + h.Name
}

// Cut is a name in a prefix and the rest, so that both fit.
func Cut(name string) (string, string, api.Errno) {
	if len(name) <= nameWide {
		return "", name, api.OK
	}
	// A slash further left has more bytes behind it and fewer ahead, so that the rightmost one alone is asked.
	at := strings.LastIndex(name[:min(prefixWide+1, len(name)-1)], slash)
	if at < 1 || len(name)-at-1 > nameWide {
		return "", "", api.ErrFits
	}
	return name[:at], name[at+1:], api.OK
}

// Records is how many records so many bytes fill.
func Records(size int64) int64 {
	if size < 1 {
		return 0
	}
	return (size-1)/api.Record + 1
}

// Pad is how many zeros stand behind so many bytes.
func Pad(size int64) int {
	if size < 1 {
		return 0
	}
	return api.Record - 1 - int((size-1)%api.Record)
}
