package index_test

import (
	"math"
	"strings"
	"testing"

	"satchel/api"
)

// lineOf is the line of the one entry of an archive.
func lineOf(t *testing.T, b string) string {
	t.Helper()
	h := opened(t, []byte(b+end))
	if len(h.items) != 1 {
		t.Fatal(sketch(h.was))
	}
	return h.line(0)
}

// The chapter's second example.
func TestLineExample(t *testing.T) {
	h := api.Header{Name: "a", Type: '5', Mode: 493, User: "root", Group: "root"}
	for _, x := range []struct {
		mode, time int64
		want       string
	}{
		{493, 0, "drwxr-xr-x root/root 0 1970-01-01 00:00:00 a"},
		{2541, 0, "drwsr-xr-x root/root 0 1970-01-01 00:00:00 a"},
		{493, -1, "drwxr-xr-x root/root 0 1969-12-31 23:59:59 a"},
		{493, 951782400, "drwxr-xr-x root/root 0 2000-02-29 00:00:00 a"},
	} {
		h.Form, h.Mode, h.Time = api.GNU, x.mode, x.time
		if line := lineOf(t, made(h, "")); line != x.want {
			t.Errorf("%q, not %q", line, x.want)
		}
	}
}

// P23.5: each kind, with its own letter and what stands behind its name.
func TestLineKinds(t *testing.T) {
	const at = "0/0 0 1970-01-01 00:00:00 "
	for b, want := range map[string]string{
		dir("d/"):            "drwxr-xr-x " + at + "d/",
		file("f", ""):        "-rw-r--r-- " + at + "f",
		file("f", "12345"):   "-rw-r--r-- 0/0 5 1970-01-01 00:00:00 f",
		symlink("s", "../t"): "lrwxrwxrwx " + at + "s -> ../t",
		symlink("s", ""):     "lrwxrwxrwx " + at + "s -> ",
		hard("h", "./f"):     "hrw-r--r-- " + at + "h link to ./f",
		device("n"):          "?rw-r--r-- " + at + "n",
		made(api.Header{Name: "p", Type: '6', Mode: 0o600, Link: "x"}, ""): "?rw------- " + at + "p",
		made(api.Header{Name: "?", Type: 'Z'}, "12345"):                    "?--------- " + at + "?",
		made(api.Header{Name: "7", Type: '7'}, "123"):                      "---------- 0/0 3 1970-01-01 00:00:00 7",
		made(api.Header{Name: "f", Type: '0', Link: "x"}, ""):              "---------- " + at + "f",
		oldHoles("o", 12345, []api.Range{{From: 1, To: 2}}, "x"):           "-rw-r--r-- 0/0 12345 1970-01-01 00:00:00 o",
		paxHoles("p", math.MaxInt64, nil, ""):                              "-rw-r--r-- 0/0 9223372036854775807 1970-01-01 00:00:00 p",
	} {
		if line := lineOf(t, b); line != want {
			t.Errorf("%q, not %q", line, want)
		}
	}
	h := opened(t, []byte(file("f", "")+end))
	for _, i := range []int{-1, 1, 2} {
		if line := h.line(i); line != "" {
			t.Errorf("%d: %q", i, line)
		}
	}
}

// P23.5: all modes.
func TestLineModes(t *testing.T) {
	t.Parallel()
	var b strings.Builder
	for mode := range int64(4096) {
		b.WriteString(made(api.Header{Name: "a", Type: '0', Mode: mode}, ""))
	}
	b.WriteString(end)
	x, _, why := makeOf(b.String())
	if why != api.OK {
		t.Fatal(why)
	}
	seen := make(map[string]bool)
	for mode := range 4096 {
		item, _ := x.Item(mode)
		line := x.Line(mode)
		if want := modelLine([]api.Item{item}, 0); line != want || item.Entry.Meta.Mode != uint32(mode) {
			t.Fatalf("%o: %q, not %q", mode, line, want)
		}
		seen[line[:10]] = true
	}
	if len(seen) != 4096 {
		t.Error(len(seen))
	}
	for mode, want := range map[int]string{0: "----------", 0o777: "-rwxrwxrwx", 0o7777: "-rwsrwsrwt", 0o7000: "---S--S--T", 0o4100: "---s------", 0o2010: "------s---", 0o1001: "---------t", 0o4000: "---S------", 0o2000: "------S---", 0o1000: "---------T", 0o124: "---x-w-r--"} {
		if line := x.Line(mode); line[:10] != want {
			t.Errorf("%o: %q", mode, line)
		}
	}
}

// P23.5: owners by their names, by their numbers, by one of each.
func TestLineOwners(t *testing.T) {
	for _, x := range []struct {
		b    string
		want string
	}{
		{made(api.Header{Name: "a", Type: '0', User: "u", Group: "g", UID: 5, GID: 6}, ""), "u/g"},
		{made(api.Header{Name: "a", Type: '0', User: "", Group: "g", UID: 5, GID: 6}, ""), "5/g"},
		{made(api.Header{Name: "a", Type: '0', User: "u", Group: "", UID: 5, GID: 6}, ""), "u/6"},
		{made(api.Header{Name: "a", Type: '0', UID: 5, GID: 6}, ""), "5/6"},
		{pairs('x', "uid", "4294967295", "gid", "4294967295") + file("a", ""), "4294967295/4294967295"},
		{pairs('x', "uid", "2147483648", "gid", "1") + file("a", ""), "2147483648/1"},
		{pairs('x', "uname", "a b", "gname", "c/d") + file("a", ""), "a b/c/d"},
		{pairs('x', "uname", " ", "gname", "0") + file("a", ""), " /0"},
	} {
		if line := lineOf(t, x.b); line != "-"+line[1:10]+" "+x.want+" 0 1970-01-01 00:00:00 a" {
			t.Errorf("%q, not %q", line, x.want)
		}
	}
}

// P23.5: names and links with blanks and others, just as they are.
func TestLineNames(t *testing.T) {
	for _, name := range []string{"a b", " a", "a ", "a -> b", "x link to y", "a\nb", "\xff\xfe", "é", "/abs", "../up", "a/", "./a", strings.Repeat("long ", 1000)} {
		if line := lineOf(t, named(name, api.Header{Type: '5'}, "")); line != "d--------- 0/0 0 1970-01-01 00:00:00 "+name {
			t.Errorf("%q", line)
		}
		if line := lineOf(t, pairs('x', "linkpath", name)+made(api.Header{Name: "n", Type: '2'}, "")); line != "l--------- 0/0 0 1970-01-01 00:00:00 n -> "+name {
			t.Errorf("%q", line)
		}
		if line := lineOf(t, long('K', name)+made(api.Header{Name: "n m", Type: '1'}, "")); line != "h--------- 0/0 0 1970-01-01 00:00:00 n m link to "+name {
			t.Errorf("%q", line)
		}
	}
}

// daysOf is the days and times of entries' lines.
func daysOf(t *testing.T, times ...int64) []string {
	t.Helper()
	var b strings.Builder
	for _, time := range times {
		b.WriteString(made(api.Header{Form: api.GNU, Name: "a", Type: '0', Time: time}, ""))
	}
	x, _, why := makeOf(b.String())
	if why != api.OK || x.Len() != len(times) {
		t.Fatal(why)
	}
	var l []string
	for i, time := range times {
		text := strings.TrimSuffix(strings.TrimPrefix(x.Line(i), "---------- 0/0 0 "), " a")
		if want := modelMoment(time); text != want {
			t.Fatalf("%d: %q, not %q", time, text, want)
		}
		l = append(l, text)
	}
	return l
}

// P23.5: times ahead of 1970, of the year 0, of years below it, of more than four digits, the least and the greatest.
func TestLineTimes(t *testing.T) {
	for time, want := range map[int64]string{
		0: "1970-01-01 00:00:00", 59: "1970-01-01 00:00:59", 60: "1970-01-01 00:01:00", 3599: "1970-01-01 00:59:59", 3600: "1970-01-01 01:00:00", 86399: "1970-01-01 23:59:59", 86400: "1970-01-02 00:00:00",
		-1: "1969-12-31 23:59:59", -86400: "1969-12-31 00:00:00", -86401: "1969-12-30 23:59:59",
		-62135596800: "0001-01-01 00:00:00", -62135596801: "0000-12-31 23:59:59", -62167219200: "0000-01-01 00:00:00", -62167219201: "-0001-12-31 23:59:59",
		-62162121600: "0000-02-29 00:00:00", -62162035200: "0000-03-01 00:00:00", -62162035201: "0000-02-29 23:59:59",
		253402300799: "9999-12-31 23:59:59", 253402300800: "10000-01-01 00:00:00",
		-377705116800: "-9999-01-01 00:00:00", -377705116801: "-10000-12-31 23:59:59",
		951782399: "2000-02-28 23:59:59", 951868799: "2000-02-29 23:59:59", 951868800: "2000-03-01 00:00:00",
		-2203891200: "1900-03-01 00:00:00", -2203891201: "1900-02-28 23:59:59", 68169600: "1972-02-29 00:00:00", 1709164800: "2024-02-29 00:00:00", 1677542400: "2023-02-28 00:00:00", 1677628800: "2023-03-01 00:00:00",
		4107456000: "2100-02-28 00:00:00", 4107542400: "2100-03-01 00:00:00", 13574563200: "2400-02-29 00:00:00",
		math.MaxInt64: "292277026596-12-04 15:30:07", math.MinInt64: "-292277022657-01-27 08:29:52", math.MinInt64 + 1: "-292277022657-01-27 08:29:53",
	} {
		if got := daysOf(t, time); got[0] != want {
			t.Errorf("%d: %q, not %q", time, got, want)
		}
	}
}

// P23.5: each day of more than 400 years around the year 0, 1970, and far ahead of both; the first and the last second of days.
func TestLineDays(t *testing.T) {
	t.Parallel()
	for _, from := range []int64{-719528 - 366*210, -366 * 250, -719528 - 366*40000} {
		for range 410 {
			var times []int64
			for day := range int64(366) {
				times = append(times, (from+day)*86400)
				if day%7 == 0 {
					times = append(times, (from+day)*86400+86399)
				}
			}
			daysOf(t, times...)
			from += 366
		}
	}
}

// P23.5: the part of a second plays no part; times told by pax.
func TestLineParts(t *testing.T) {
	for value, want := range map[string]string{"-0.5": "1969-12-31 23:59:59", "0.999999999": "1970-01-01 00:00:00", "-1": "1969-12-31 23:59:59", "-1.000000001": "1969-12-31 23:59:58", "9223372036854775807.9": "292277026596-12-04 15:30:07", "-9223372036854775807": "-292277022657-01-27 08:29:53"} {
		if line := lineOf(t, pairs('x', "mtime", value)+file("a", "")); line != "-rw-r--r-- 0/0 0 "+want+" a" {
			t.Errorf("%s: %q", value, line)
		}
	}
}
