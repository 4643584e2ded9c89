package extract_test

import (
	"strings"
	"testing"

	"satchel/api"
	"satchel/extract"
)

// Memory: the bytes that are handed in are not kept: what is brought out, and what is told, stays as it is if they change.
func TestMemory(t *testing.T) {
	far := strings.Repeat("d/", 70) + "x"
	b, _, _ := mixed()
	with := []byte(b[:len(b)-1024] + file("many", strings.Repeat("many bytes", 99)) + long('L', far) + file("x", "x") + end)
	was := string(with)
	h := newHeld(t, 99, 9999)
	report, why := extract.Extract(with, h.f, 1, by(api.Policy{}))
	if why != api.ErrBlocked || report.Name != far || string(with) != was {
		t.Fatal(report, why)
	}
	data := bytesAt(h.f, "many")
	h.unchanged("bytes that are others now", func() {
		for i := range with {
			with[i] = '#'
		}
	})
	if report.Name != far || data != strings.Repeat("many bytes", 99) {
		t.Error(report)
	}
}

// From arguments alone: the same on a clone, on a file system of the image, and again; whatever was done on another one in between. The trace goes on where it was.
func TestFromArgumentsAlone(t *testing.T) {
	b, _, _ := mixed()
	for _, b := range []string{b, b[:3000], file("f", "x") + end, "x", dir("d", 0) + file("s/x", "x")} {
		for _, there := range ways {
			o := by(api.Policy{There: there, Parents: true})
			f := example(t)
			clone, loaded := f.Clone(), room(t, f, 99, 9999)
			want, why := extract.Extract([]byte(b), f, 1, o)
			for _, other := range []string{file("new", "x"), dir("d", 0o7), symlink("s", "x"), "x"} {
				extract.Extract([]byte(other), example(t), 1, by(api.Policy{There: api.Replace}))
			}
			for i, h := range []held{{t, clone}, {t, loaded}} {
				if got, e := h.extract(b, 1, o); got != want || e != why {
					t.Errorf("%d: %+v %d, not %+v %d", i, got, e, want, why)
				}
				// And the same file system once more, as it is now.
				h.extract(b, 1, o)
			}
		}
	}
}

// Nil and empty bytes are alike.
func TestNil(t *testing.T) {
	for _, b := range [][]byte{nil, {}, []byte("spare")[:0]} {
		h := newHeld(t, 2, 2)
		h.unchanged("no bytes", func() {
			if report, why := extract.Extract(b, h.f, 1, api.Extraction{}); report != (api.Report{}) || why != api.OK {
				t.Error(report, why)
			}
		})
	}
}
