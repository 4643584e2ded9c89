package archive_test

import (
	"strings"
	"testing"

	"satchel/api"
	"satchel/pax"
)

// pairs are keys and values, for the next entry (x) or for all (g).
func pairs(letter byte, texts ...string) string {
	var l []api.Pair
	for i := 0; i < len(texts); i += 2 {
		l = append(l, api.Pair{Key: texts[i], Value: texts[i+1]})
	}
	b, why := pax.Print(l)
	if why != api.OK {
		panic(why)
	}
	return made(api.Header{Name: "@PaxHeader", Mode: 0o644, Type: letter}, string(b))
}

// P22.8; P1 and P2 of the whole: archives whose entries set traps for those behind them, by all policies, cut off anywhere, in every sort of wrapping.
func TestTraps(t *testing.T) {
	t.Parallel()
	for i, list := range [][]string{
		{symlink("x", ".."), file("x/f", "evil")},
		{symlink("x", "/"), dir("x", 0o777), file("x/f", "evil")},
		{symlink("x", "../f"), file("x", "evil")},
		{symlink("x", "../f"), hard("y", "x"), file("y", "evil")},
		{symlink("x", "../out"), hard("y", "x/f"), file("y", "evil")},
		{dir("x", 0), symlink("x", ".."), file("x/f", "evil")},
		{dir("x", 0), file("x/y", "a"), symlink("x/y", "../.."), file("x/y/f", "evil")},
		{symlink("x", "d/up"), dir("x", 0o777), file("x/f", "evil")},
		{hard("x", "h"), file("x", "evil"), dir("x", 0o777)},
		{dir("up", 0o777), file("up/f", "evil")},
		{file("up", "evil"), file("up", "evil"), dir("up", 0)},
		{long('L', "../f") + file("f", "evil"), dir("x", 0)},
		{pairs('x', "path", "/f") + file("f", "evil"), dir("x", 0)},
		{pairs('g', "path", "out/f") + file("x", "evil"), file("y", "evil")},
		{pairs('x', "linkpath", "../f") + hard("x", "f"), file("x", "evil")},
		{long('K', "../../out") + symlink("x", "d"), file("x/f", "evil")},
		{dir("../t", 0o777), dir("..", 0o777), dir("../out", 0o777)},
	} {
		b := strings.Join(list, "") + end
		for _, m := range three() {
			for _, there := range ways {
				for bits := range 4 {
					o := api.Extraction{Policy: api.Policy{There: there, Parents: bits&1 == 1, Leaving: bits&2 == 2, Mask: 0o22}, Quota: plenty}
					for n := 0; n <= len(b); n += 256 {
						h := held{t, house(t)}
						if report, _ := h.extract(mustWrap(t, []byte(b[:n]), m), 2, o); !kept(h.f) {
							t.Errorf("%d: %+v", i, report)
						}
					}
				}
			}
		}
	}
}

// P22.8; P2 of the whole: no link that is there is gone through, whatever the bytes are wrapped in.
func TestLinksLeadNowhere(t *testing.T) {
	t.Parallel()
	for _, link := range []string{"up", "out", "root", "file", "d/up", "d/e/up", "loop", "in", "dead"} {
		for _, there := range ways {
			for _, below := range []string{"/x", "/f", "/d/f", "/t/f", "/etc/passwd"} {
				name := link + below
				for _, b := range []string{dir(name, 0o777), file(name, "evil"), symlink(name, "/"), hard(name, "f"), hard("x", name)} {
					for _, m := range wrappings() {
						if m.Shape.Block > 4 {
							continue
						}
						h := held{t, house(t)}
						h.f.Forget()
						want := api.Report{Name: name, Cause: api.ErrInWay}
						if strings.HasPrefix(b, "x\x00") {
							want.Name = "x"
						}
						o := api.Extraction{Policy: api.Policy{There: there, Parents: true, Leaving: true}, Quota: plenty}
						h.unchanged(name, func() { h.comes(mustWrap(t, []byte(b+end), m), 2, o, want, api.ErrBlocked) })
					}
				}
			}
		}
	}
}

// P22.8: a file that has a name outside keeps its bytes and its meta, whatever becomes of its names inside, and whatever the bytes are wrapped in.
func TestNamesOutside(t *testing.T) {
	for _, m := range wrappings() {
		for in, out := range map[string]string{"h": "f", "d/h": "out/d/f", "d/h2": "out/d/f", "d/g": "out/h"} {
			for _, b := range []string{
				file(in, "evil"), file(in, ""), dir(in, 0o777), symlink(in, "/"), hard(in, "f"),
				hard("new", in) + file("new", "evil"),
				hard("new", in) + file(in, "evil") + hard(in, "new") + file(in, "more") + file("new", "evil"),
			} {
				h := held{t, house(t)}
				node := at(h.f, out)
				was := metaOf(h.f, node)
				o := api.Extraction{Policy: api.Policy{There: api.Replace, Leaving: true}, Quota: plenty}
				if report, why := h.extract(mustWrap(t, []byte(b+end), m), 2, o); why != api.OK || !kept(h.f) || at(h.f, out) != node || metaOf(h.f, node) != was {
					t.Fatalf("%s, %+v: %+v %d", in, m, report, why)
				}
			}
		}
	}
}

// P22.8; P3 of the whole: what is written, brought out and made stays within the quota, whatever the bytes are wrapped in; held.extract holds that, too.
func TestQuotas(t *testing.T) {
	b := file("a", "12345") + dir("d", 0o755) + dir("d/e", 0o755) + file("d/e/f", "123") + symlink("d/s", "e") + hard("h", "a") + end
	for bytes := range 10 {
		for entries := range 8 {
			for depth := range 4 {
				q := api.Quota{Bytes: int64(bytes), Entries: entries, Depth: depth}
				want, why := api.Report{Place: len(b) - 1024}, api.OK
				for i, x := range []struct {
					name         string
					place, depth int
					size         int64
				}{{"a", 0, 1, 5}, {"d", 1024, 1, 0}, {"d/e", 1536, 2, 0}, {"d/e/f", 2048, 3, 3}, {"d/s", 3072, 2, 0}, {"h", 3584, 1, 0}} {
					cause := api.OK
					switch {
					case i >= entries:
						cause = api.ErrEntries
					case x.depth > depth:
						cause = api.ErrDepth
					case want.Bytes+x.size > q.Bytes:
						cause = api.ErrQuota
					}
					if cause != api.OK {
						want.Place, want.Name, want.Cause, why = x.place, x.name, cause, api.ErrLimits
						break
					}
					want.Done++
					want.Bytes += x.size
				}
				for _, m := range three() {
					newHeld(t, 9, 99).comes(mustWrap(t, []byte(b), m), 1, api.Extraction{Quota: q}, want, why)
				}
			}
		}
	}
}
