package vfs_test

import (
	"bytes"
	"math"
	"runtime"
	"strings"
	"testing"

	"satchel/api"
	"satchel/vfs"
)

// file is a file system with one file, 2, of these bytes.
func file(t *testing.T, room int, data string) both {
	t.Helper()
	b := newBoth(t, 3, room)
	b.ok(call{what: create, dir: 1, name: "f"})
	b.ok(call{what: write, node: 2, data: data})
	return b
}

// text is all bytes of the file 2.
func (b both) text() string {
	b.t.Helper()
	return b.whys(call{what: read, node: 2, n: math.MaxInt}, api.OK).text
}

// P10.5: Read at 0, at the end and behind it, of nothing, of more than there is.
func TestRead(t *testing.T) {
	b := file(t, 10, "abcde")
	for at := range 8 {
		for n := range 8 {
			want := ""
			for i := at; i < min(5, at+n); i++ {
				want += "abcde"[i : i+1]
			}
			if a := b.do(call{what: read, node: 2, at: at, n: n}); a.text != want {
				t.Errorf("Read at %d of %d: %q", at, n, a.text)
			}
		}
	}
	for _, great := range []int{api.MaxFile, api.MaxFile + 1, math.MaxInt32, math.MaxInt - 1, math.MaxInt} {
		for at, want := range map[int]string{0: "abcde", 4: "e", 5: "", 6: "", great: ""} {
			if a := b.whys(call{what: read, node: 2, at: at, n: great}, api.OK); a.text != want {
				t.Errorf("Read at %d of %d: %q", at, great, a.text)
			}
		}
	}
	for _, low := range []int{-1, math.MinInt} {
		b.whys(call{what: read, node: 2, at: low, n: 1}, api.ErrArg)
		b.whys(call{what: read, node: 2, at: 0, n: low}, api.ErrArg)
		b.whys(call{what: read, node: 2, at: 9, n: low}, api.ErrArg)
	}
}

// P10.5: Write over all, over some, at the end, behind it with zeros between.
func TestWrite(t *testing.T) {
	for at := range 10 {
		for n := range 10 {
			b := file(t, 30, "abcde")
			data := "ABCDEFGHIJ"[:n]
			b.ok(call{what: write, node: 2, at: at, data: data})
			want := []byte("abcde")
			for len(want) < at+n && n > 0 {
				want = append(want, 0)
			}
			copy(want[min(at, len(want)):], data)
			if got := b.text(); got != string(want) {
				t.Errorf("%d bytes at %d: %q", n, at, got)
			}
		}
	}
}

// P10.5: Write of no bytes changes nothing wherever it is, even where there is no room; and is refused where bytes can't lie.
func TestWriteNothing(t *testing.T) {
	b := file(t, 5, "abcde")
	for _, at := range []int{0, 5, 6, api.MaxFile - 1, api.MaxFile} {
		b.ok(call{what: write, node: 2, at: at})
	}
	for _, at := range []int{-1, math.MinInt, api.MaxFile + 1, math.MaxInt} {
		b.whys(call{what: write, node: 2, at: at}, api.ErrArg)
		b.whys(call{what: write, node: 2, at: at, data: "x"}, api.ErrArg)
	}
	if b.text() != "abcde" {
		t.Error(b.text())
	}
}

// P10.5: room for bytes that is just enough and just not, for Write and Resize; what is written over needs none.
func TestRoomForBytes(t *testing.T) {
	b := file(t, 10, "abcd")
	b.ok(call{what: create, dir: 1, name: "g"})
	b.ok(call{what: write, node: 3, data: "xyz"})
	b.whys(call{what: write, node: 2, at: 7, data: "e"}, api.ErrSpace)
	b.whys(call{what: write, node: 2, at: 0, data: "ABCDEFGH"}, api.ErrSpace)
	b.whys(call{what: resize, node: 2, n: 8}, api.ErrSpace)
	if b.text() != "abcd" {
		t.Error(b.text())
	}
	b.ok(call{what: write, node: 2, at: 6, data: "e"})
	b.ok(call{what: write, node: 2, at: 0, data: "ABCDEFG"})
	b.whys(call{what: write, node: 2, at: 7, data: "H"}, api.ErrSpace)
	b.whys(call{what: write, node: 3, at: 2, data: "ZZ"}, api.ErrSpace)
	b.ok(call{what: resize, node: 2, n: 7})
	b.ok(call{what: resize, node: 2, n: 6})
	b.ok(call{what: write, node: 3, at: 2, data: "ZZ"})
	b.whys(call{what: resize, node: 2, n: 7}, api.ErrSpace)
	b.ok(call{what: unlink, dir: 1, name: "g"})
	b.ok(call{what: resize, node: 2, n: 10})
	b.whys(call{what: resize, node: 2, n: 11}, api.ErrSpace)
	b.whys(call{what: write, node: 2, at: 10, data: "x"}, api.ErrSpace)
	b = file(t, 0, "")
	b.whys(call{what: write, node: 2, data: "x"}, api.ErrSpace)
	b.whys(call{what: resize, node: 2, n: 1}, api.ErrSpace)
	b.ok(call{what: resize, node: 2})
}

// P10.5, P10.8: a file that a rename takes away gives its room back, unless another entry names it.
func TestRoomBehindRename(t *testing.T) {
	b := file(t, 5, "abcde")
	b.ok(call{what: create, dir: 1, name: "g"})
	b.ok(call{what: link, dir: 1, name: "h", node: 2})
	b.ok(call{what: rename, dir: 1, name: "g", to: 1, other: "f"})
	b.whys(call{what: write, node: 3, data: "x"}, api.ErrSpace)
	b.ok(call{what: rename, dir: 1, name: "f", to: 1, other: "h"})
	b.ok(call{what: write, node: 3, data: "vwxyz"})
	b.whys(call{what: stat, node: 2}, api.ErrNode)
}

// P10.5: Resize up and down; what was cut off does not come back, whatever makes the file longer again.
func TestResize(t *testing.T) {
	for size := range 9 {
		for again := range 9 {
			b := file(t, 20, "abcde")
			b.ok(call{what: resize, node: 2, n: size})
			want := ("abcde" + strings.Repeat("\x00", 9))[:size]
			if got := b.text(); got != want {
				t.Errorf("5, %d: %q", size, got)
			}
			b.ok(call{what: resize, node: 2, n: again})
			want = (want + strings.Repeat("\x00", 9))[:again]
			if got := b.text(); got != want {
				t.Errorf("5, %d, %d: %q", size, again, got)
			}
			b.ok(call{what: write, node: 2, at: 9, data: "z"})
			if got := b.text(); got != want+strings.Repeat("\x00", 9-again)+"z" {
				t.Errorf("5, %d, %d, 10: %q", size, again, got)
			}
		}
	}
	b := file(t, 20, "abcde")
	for _, size := range []int{-1, math.MinInt, api.MaxFile + 1, math.MaxInt} {
		b.whys(call{what: resize, node: 2, n: size}, api.ErrArg)
	}
}

// P10.5: the greatest file: by Resize, by one Write, by a Write of its last byte; and one byte more.
func TestGreatest(t *testing.T) {
	all := bytes.Repeat([]byte("satchel!"), api.MaxFile/8)
	f, why := vfs.New(2, api.MaxBytes)
	if why != api.OK {
		t.Fatal(why)
	}
	f.Create(1, "f", api.Meta{})
	grow := []func() api.Errno{
		func() api.Errno { return f.Resize(2, api.MaxFile) },
		func() api.Errno { return f.Write(2, 0, all) },
		func() api.Errno { return f.Write(2, api.MaxFile-1, []byte("!")) },
	}
	for i, one := range grow {
		if why := one(); why != api.OK {
			t.Fatal(i, why)
		}
		b, why := f.Read(2, 0, api.MaxFile)
		if s, _ := f.Stat(2); s.Size != api.MaxFile || len(b) != api.MaxFile || why != api.OK {
			t.Error(i, s, len(b), why)
		}
		if last, why := f.Read(2, api.MaxFile-1, 9); len(last) != 1 || last[0] != b[api.MaxFile-1] || why != api.OK {
			t.Error(i, last, why)
		}
		if none, why := f.Read(2, api.MaxFile, 9); len(none) != 0 || why != api.OK {
			t.Error(i, none, why)
		}
		if _, free := f.Free(); free != 0 {
			t.Error(i, free)
		}
		if why := f.Write(2, api.MaxFile, nil); why != api.OK {
			t.Error(i, why)
		}
		for j, more := range []api.Errno{
			f.Write(2, api.MaxFile, []byte("x")), f.Write(2, 1, all), f.Write(2, 0, append(all, 'x')), f.Resize(2, api.MaxFile+1),
		} {
			if more != api.ErrArg {
				t.Error(i, j, more)
			}
		}
		if x := f.Image(); !vfs.Valid(x) || !bytes.Equal(x.List[1].Data, b) {
			t.Error(i)
		}
		f.Resize(2, 0)
	}
}

// P10.5: a file that is written piece by piece, to and fro.
func TestPieces(t *testing.T) {
	b := newBoth(t, 2, 1<<16)
	b.ok(call{what: create, dir: 1, name: "f"})
	want := make([]byte, 0, 1<<16)
	for i := range 400 {
		data := strings.Repeat(string([]byte{byte(i)}), 1+i*37%101)
		at := len(want)
		if i%5 == 4 {
			at = at * 2 / 3
		}
		for len(want) < at+len(data) {
			want = append(want, 0)
		}
		copy(want[at:], data)
		if why := b.f.Write(2, at, []byte(data)); why != api.OK {
			t.Fatal(why)
		}
		if got, _ := b.f.Read(2, 0, 1<<16); !bytes.Equal(got, want) {
			t.Fatalf("behind %d pieces", i+1)
		}
	}
}

// What is cut off is not kept: files that were great once, one behind the other, would come to more than a GiB.
func TestCutOffIsGone(t *testing.T) {
	f, _ := vfs.New(api.MaxNodes, api.MaxBytes)
	for i := 2; i <= 300; i++ {
		n, _ := f.Create(1, strings.Repeat("f", i%200+1)+string(rune('a'+i/200)), api.Meta{})
		if why := f.Resize(n, api.MaxFile-200); why != api.OK {
			t.Fatal(i, why)
		}
		if why := f.Resize(n, i%2); why != api.OK {
			t.Fatal(i, why)
		}
	}
	if nodes, free := f.Free(); nodes != api.MaxNodes-300 || free != api.MaxBytes-149 {
		t.Error(nodes, free)
	}
	var is runtime.MemStats
	runtime.GC()
	runtime.ReadMemStats(&is)
	if is.HeapAlloc > 1<<29 {
		t.Errorf("%d bytes are kept", is.HeapAlloc)
	}
	runtime.KeepAlive(f)
}
