package reader_test

import (
	"archive/tar"
	"bytes"
	"encoding/base64"
	"io"
	"slices"
	"strings"
	"testing"
	"time"

	"satchel/api"
	"satchel/gzip"
	"satchel/reader"
)

// What GNU tar 1.34 made of one small tree, in gzip members, in base 64: a directory, a file of two names, a symbolic link, a pipe; but for the first two, files with 3 and 31 ranges, and a name and a link of 120 bytes.
const (
	madeV7 = `H4sIAAAAAAACA+3UMQrDMAyFYc09hW8QKZatC6UlQyBD7w9tQjMVSjPEEPJ/izCarIc0dHI4fYtSlmpRdH2b+1o/xLz0HqGuS79mNUlFTmT7yFZPYugeLUbjv/OvX/mHSxLyP9x4n6b5Jriosc1q+M` +
		`77Xy0kWYvjdPH9fzYaTUTsyj9nST35AwAAAAAAAAAAAADwlxfqtEEnACgAAA==`
	madeUstar = `H4sIAAAAAAACA+3WTQ6CMBCG4a49RW9AB1rmPCaoLIgQ0Hh9C+qGBeKCJob32UybNGmbL/2pMrM5F2kIYxUNbuqL91N9M+JD7lWdj20n03AbTAL34Xbs41Lax3Vx3KXvvm5y3Min/okqO6fI3y/nX8` +
		`7yFymcsY78N1efmqY9GOxUnWCO7+d/fv9LroWxkuJy2vn5H9Lk71T1l/wLp8bm5L+5LlH+5Svv1f8/ie9/yfsPAAAAAAAAAAAAAKs9AYQKAfUAKAAA`
	madeGNU = `H4sIAAAAAAACA+3ay1LbSBQGYGU7T6EnCGpblrbjC3dzv7OjKglJhcEUkGLm7cc2yYSA22RjMzTft5GQj1DVf3zaWvSHhWzmiqG61RodQ90qxn+Hshwfv8tC2WqUdV2UxejzuhyW561sDr7d3J5d53` +
		`k2uLucWnd+fZUl6MPCp3n0v5ze/+px/6tmkeWF/s/c548XF4M/Mt6oz3N4xvPz/2T9r+tmlod5LE5vfP5v5tP/UUd/v/9hdEOWN/R/5q7m1P/qvt+//f4Xhr//ld//mfv08e6F3/8bE+a/DnWV5Xtv` +
		`ov8Pp+D+EB6cl5Ovj09bv9w7/QHfb3gR7XbbixYAAAAkrtPpCAEAAABe0F9nl//M+hlT9380q6f7PxrDT4P9H8/t/5h0/Wn9u/FpXU7eJPJzC86E/9aIPL0ZqW9G6stIfRmpb0XqW5H6KlJfRerrSH` +
		`09uT5EuhMi3QmR7oQQqY/kHyL5h0j+IZJ/mJD/uwf9D5E+hEgfQqQPIdKHEOlD+CXvZ3Yx8WrZ/wUAAADps/8LAAAA0tftdoUAAAAAiev1ekIAAACAxC0uLgoBAAAAEre0tCQEAAAASNzy8rIQAAAA` +
		`IHErKytCAAAAgMStrq4KAQAAABK3trYmBAAAAEjc+vq6EAAAACBx/X5fCAAAAJC4jY0NIQAAAEDiNjc3hQAAAACJ29raEgIAAAAkbnt7WwgAAACQuJ2dHSEAAABA4nZ3d4UAAAAAidvb2xMCAAAAJG` +
		`5/f18IAAAAkLiDgwMhAAAAQOIODw+FAAAAAIk7OjoSAgAAACTu+PhYCAAAAJC4k5MTIQAAAEDiTk9PhQAAAACJa7fbQgAAAIDEdTodIQAAAEDiut2uEAAAACBxvV5PCAAAAPCC3i+8X/izP7g873+5` +
		`/DqjZxRDVVmOj0OPj0Wow3/n4+shVEXI8vV5BPDt5vbsOs+z68Hgdlrdc5+/UpcvxOT9P1zM4Rmjoa7rOhuPeut+7sPP9WA886FsNcq6LsrR/DfLUXnemMcX8cf8D+6mfyfPr6+s/3Nc/xtZ3rf+W/` +
		`959f1/MP+R9T88Xv+r0MzyYp7z/0bX/7+NAAAAACTvX51XaEsAMAIA`
	madePax = `H4sIAAAAAAACA+3aW1PbRhgGYF/7V/gXEO1qJdkXXHAI5Hwi5HTnaR1Caw4DdJL211cYuaFAkjITBJWf5wJpNP6Q9a73kzSzO72bl9XKlGbb2sVtloWqF4pYVTGVeVHVx8tYpt5gp4Xv1vvj+GR8VJ` +
		`+yt5hCMfjlYG9vsn+yPJ5O+z0Wy6/32pn/VVH0ZjO9OJv34Ws/mPWCkIqYqipLp30hzD4+KNqc/wef97/7uZ2jwx9e5Pnm9r8Z/49tjH/6/viXF8Y/hDzrDTLjf+M+TabTA21/YX1q5/kvXa//h1jl` +
		`vUFoozkt+Pw/bun5v6qq64x/nlW9QTT+N+6w3fe///z8F+r7f+n+f+O+3IH3/5AujH9W5ln9/v+lzfFf0Pt/jIPNZ9tLx4fjo+PJ0t74t4Oj5dC/cHR3vz6a9WN+/uj+eG+y/HHyuR9H5w8fTcbT49` +
		`2/Jst5rKrck+Udt3SvHrut2dBt7E4nS6OYhvfqUW3v/T+Gy/0/pSz3/teGvJ/1UzYq+6HMh+ls92zmZuYuP8XKyooQAAAAoONWV1eFAAAAALfobqz/i5fX/5XW/7XhWuv/0qX1f3vj/T/7eXblAsAi` +
		`q0ZZsoroTrty/d/pqP7k+f/N9X95edX6v6IqrP9rQx6uXgBYDs920ygU8Wy3LIq8PNsdhlFsykbDPGvKQkjlsKkLeciqpjCkKhXlubPMzzjMYpzXjsoya2pjiKNRUxvjKK+a2lj/LMqmNpax/gk1+9` +
		`WwiPPaUf2Nm9o81P+oPHdJTW2eUn0/avbLLKWmtj7RMJ/XjvIYmtrTP1lTm2IxmseUUsz/yakYVvOgUlWEeVJNE1zoxZTW/wEAAED3Wf8HAAAA3be2tiYEAAAA6Lj19XUhAAAAQMfdv39fCAAAANBx` +
		`GxsbQgAAAICO29zcFAIAAAB03IMHD4QAAAAAHffw4UMhAAAAQMc9evRICAAAANBxjx8/FgIAAAB03JMnT4QAAAAAHff06VMhAAAAQMc9e/ZMCAAAANBxz58/FwIAAAB03IsXL4QAAAAAHffy5UshAA` +
		`AAQMe9evVKCAAAANBxW1tbQgAAAICOe/36tRAAAACg47a3t4UAAAAAHffmzRshAAAAQMe9fftWCAAAANBx7969EwIAAAB03Pv374UAAAAAHffhwwchAAAAQMetrKwIAQAAADpudXVVCAAAANBxa2tr` +
		`QgAAAICOW19fFwIAAADcoi8tnCOrlSnNtrWL2yxmZS+kIqaqytLseJlnVW/Qxnfr/XF8Mj6qT7mg4x/yNJju7v9+OD75tLx/S/rm4W2ZtjT/q6o63YaqOJv34Ws/mPWCf83/vIz1xwexjd/efP4ffN` +
		`7/7kXsHB3+8CLPNzf9/xr9P17u/7n+307/zwZ6/+JqY4jPzf9v9P9wsf+HUM//rM35r/8DAAAAAAAAAAAAAHfc30PjNPoAWAIA`
)

// unpacked is the bytes of a member in base 64.
func unpacked(t *testing.T, text string) string {
	t.Helper()
	b, err := base64.StdEncoding.DecodeString(text)
	if err != nil {
		t.Fatal(err)
	}
	plain, _, why := gzip.Decode(b, api.MaxBlock)
	if why != api.OK {
		t.Fatal(why)
	}
	return string(plain)
}

// holed is a file of the tree: so many times three letters, far apart.
func holed(n, tail int) string {
	b := make([]byte, 16384*n+tail)
	for i := range n {
		copy(b[16384*i+100:], strings.Repeat(string(rune('A'+i%26)), 3))
	}
	return string(b)
}

// P16.1 to P16.3: archives of each form that another program made.
func TestMadeByGNU(t *testing.T) {
	long := strings.Repeat("n", 120)
	for _, x := range []struct {
		text   string
		form   int
		at     int
		behind int // how many entries stand behind the first four
	}{
		{madeV7, api.V7, 2560, 0},
		{madeUstar, api.Ustar, 3072, 1},
		{madeGNU, api.GNU, 139776, 5},
		{madePax, api.Ustar, 142848, 5},
	} {
		b := unpacked(t, x.text)
		user, group := "own", "grp"
		if x.form == api.V7 {
			user, group = "", ""
		}
		meta := func(mode uint32) api.Meta { return api.Meta{Mode: mode, Uid: 1000, Gid: 100, Time: 1700000000} }
		want := []api.Entry{
			{Name: "d/", Kind: api.Dir, Meta: meta(0o755)},
			{Name: "d/f", Kind: api.File, Meta: meta(0o4755), Size: 6},
			{Name: "h", Kind: api.HardLink, Meta: meta(0o4755), Link: "d/f"},
			{Name: "s", Kind: api.Symlink, Meta: meta(0o777), Link: "d/f"},
			{Name: "p", Kind: api.Device, Meta: meta(0o644), Type: '6'},
			{Name: "few", Kind: api.File, Meta: meta(0o755), Size: 32773},
			{Name: "many", Kind: api.File, Meta: meta(0o755), Size: 507904},
			{Name: "l", Kind: api.Symlink, Meta: meta(0o777), Link: long},
			{Name: long, Kind: api.File, Meta: meta(0o644), Size: 1},
		}[:4+x.behind]
		contents := map[string]string{"d/f": "hello\n", "few": holed(2, 5), "many": holed(30, 16384), long: "x"}
		l, at, why := held(t, b)
		if at != x.at || why != api.OK || len(l) != len(want) {
			t.Fatalf("form %d: %d entries, %d %d", x.form, len(l), at, why)
		}
		for i, e := range want {
			e.User, e.Group = user, group
			if l[i].Entry != e || l[i].Form != x.form || l[i].Sparse != (e.Size > 1000) {
				t.Errorf("form %d: %+v, not %+v", x.form, l[i], e)
			}
			if out, why := reader.Content([]byte(b), l[i]); e.Kind == api.File && (why != api.OK || string(out) != contents[e.Name]) {
				t.Errorf("form %d: %q: %d bytes, %d", x.form, e.Name, len(out), why)
			}
		}
	}
}

// P16.1 to P16.3: archives that another writer made, with names, numbers and times that need pairs or long names; read by another reader, too.
func TestMadeByAnother(t *testing.T) {
	for _, format := range []tar.Format{tar.FormatUSTAR, tar.FormatPAX, tar.FormatGNU} {
		var b bytes.Buffer
		w := tar.NewWriter(&b)
		for _, h := range []tar.Header{
			{Typeflag: tar.TypeDir, Name: "dir/", Mode: 0o755},
			{Typeflag: tar.TypeReg, Name: "dir/file", Mode: 0o644, Size: 700, Uid: 5, Gid: 6, Uname: "user", Gname: "group"},
			{Typeflag: tar.TypeSymlink, Name: "link", Linkname: "dir/file"},
			{Typeflag: tar.TypeLink, Name: "hard", Linkname: "dir/file"},
			{Typeflag: tar.TypeChar, Name: "null", Devmajor: 1, Devminor: 3},
			{Typeflag: tar.TypeBlock, Name: "disk", Devmajor: 8},
			{Typeflag: tar.TypeFifo, Name: "pipe"},
			{Typeflag: tar.TypeReg, Name: strings.Repeat("d/", 60) + "deep", Size: 1},
			{Typeflag: tar.TypeReg, Name: strings.Repeat("n", 300), Size: 513},
			{Typeflag: tar.TypeSymlink, Name: "far", Linkname: strings.Repeat("../", 99)},
			{Typeflag: tar.TypeReg, Name: "owned", Uid: 1 << 31, Gid: 1<<32 - 1, Size: 512},
			{Typeflag: tar.TypeReg, Name: "old", ModTime: time.Unix(-5, 0)},
			{Typeflag: tar.TypeReg, Name: "fine", ModTime: time.Unix(5, 123456789)},
			{Typeflag: tar.TypeReg, Name: "named", Uname: strings.Repeat("u", 40), Gname: "g\u00e9"},
		} {
			h.Format = format
			if w.WriteHeader(&h) == nil { // some do not fit
				if _, err := w.Write(bytes.Repeat([]byte(h.Name[:1]), int(h.Size))); err != nil {
					t.Fatal(err)
				}
			}
		}
		if err := w.Close(); err != nil {
			t.Fatal(err)
		}
		heldByAnother(t, b.Bytes(), map[tar.Format]int{tar.FormatUSTAR: 8, tar.FormatPAX: 14, tar.FormatGNU: 13}[format])
	}
}

// heldByAnother holds what is read of b to what another reader tells, and to how many entries there are at least.
func heldByAnother(t *testing.T, b []byte, least int) {
	t.Helper()
	l, at, why := held(t, string(b))
	if why != api.OK || at != len(b)-1024 || len(l) < least {
		t.Fatalf("%d entries, %d %d of %d", len(l), at, why, len(b))
	}
	other := tar.NewReader(bytes.NewReader(b))
	for _, x := range l {
		h, err := other.Next()
		if err != nil {
			t.Fatal(err)
		}
		e := x.Entry
		kind := map[byte]int{tar.TypeReg: api.File, tar.TypeDir: api.Dir, tar.TypeLink: api.HardLink, tar.TypeSymlink: api.Symlink}[h.Typeflag]
		if kind == 0 {
			kind = api.Device
		}
		meta := api.Meta{Mode: uint32(h.Mode), Uid: uint32(h.Uid), Gid: uint32(h.Gid), Time: h.ModTime.Unix(), Nano: int32(h.ModTime.Nanosecond())}
		if e.Name != h.Name || e.Kind != kind || e.Link != h.Linkname || e.Size != h.Size || e.Meta != meta || e.User != h.Uname || e.Group != h.Gname || x.Type != h.Typeflag {
			t.Errorf("%+v, not %+v", x, h)
		}
		data, err := io.ReadAll(other)
		if err != nil {
			t.Fatal(err)
		}
		if out, why := reader.Content(b, x); kind == api.File && (why != api.OK || !slices.Equal(out, data)) {
			t.Errorf("%q: %d", e.Name, why)
		}
	}
	if _, err := other.Next(); err != io.EOF {
		t.Errorf("%v", err)
	}
}
