package gzip_test

import (
	"bytes"
	stdgzip "compress/gzip"
	"encoding/hex"
	"fmt"
	"hash/crc32"
	"io"
	"math"
	"slices"
	"strings"
	"testing"
	"time"

	"satchel/api"
	"satchel/deflate"
	"satchel/gzip"
)

// members are such as can be: each thing that one says alone, all of them together, and each at its edges.
func members() []api.Member {
	long := strings.Repeat("n", 65535)
	l := []api.Member{
		{},
		{Name: "n"},
		{Comment: "c"},
		{Extra: []byte("e")},
		{Extra: []byte{0}},
		{Extra: []byte{0, 0, 0}},
		{Extra: []byte{}},
		{Name: long},
		{Comment: long},
		{Extra: noise(1, 65535)},
		{Name: long, Comment: long, Extra: make([]byte, 65535), Text: true, Sum: true},
		{Name: "\x01\xff", Comment: "\xff\x01"},
		{Name: "\x1f\x8b\x08", Comment: "ä\n"},
		{Time: 1},
		{Time: 0x12345678},
		{Time: math.MaxUint32},
		{Flags: 1},
		{Flags: 255},
		{System: 1},
		{System: 255},
		{Time: math.MaxUint32, Flags: 255, System: 255},
	}
	for n := range 32 {
		m := api.Member{Text: n&1 != 0, Sum: n&2 != 0, Time: 7, Flags: 2, System: 3}
		if n&4 != 0 {
			m.Extra = []byte("extra")
		}
		if n&8 != 0 {
			m.Name = "a name"
		}
		if n&16 != 0 {
			m.Comment = "a comment"
		}
		l = append(l, m)
	}
	return l
}

// wrong are members that can't be, and what is wrong with them.
func wrong() map[string]struct {
	m   api.Member
	why api.Errno
} {
	long := strings.Repeat("n", 65536)
	zero := strings.Repeat("n", 65535) + "\x00"
	extra := make([]byte, 65536)
	return map[string]struct {
		m   api.Member
		why api.Errno
	}{
		"a name that is a 0":                        {api.Member{Name: "\x00"}, api.ErrArg},
		"a name with a 0 first":                     {api.Member{Name: "\x00name"}, api.ErrArg},
		"a name with a 0 last":                      {api.Member{Name: "name\x00"}, api.ErrArg},
		"a name with a 0 within":                    {api.Member{Name: "na\x00me"}, api.ErrArg},
		"a comment that is a 0":                     {api.Member{Comment: "\x00"}, api.ErrArg},
		"a comment with a 0 first":                  {api.Member{Comment: "\x00c"}, api.ErrArg},
		"a comment with a 0 last":                   {api.Member{Comment: "c\x00"}, api.ErrArg},
		"a name that is too long":                   {api.Member{Name: long}, api.ErrLong},
		"a comment that is too long":                {api.Member{Comment: long}, api.ErrLong},
		"an extra that is too long":                 {api.Member{Extra: extra}, api.ErrLong},
		"a name that is too long by a 0":            {api.Member{Name: zero}, api.ErrArg},
		"a comment that is too long by a 0":         {api.Member{Comment: zero}, api.ErrArg},
		"a name too long, a comment with a 0":       {api.Member{Name: long, Comment: "\x00"}, api.ErrArg},
		"a comment too long, a name with a 0":       {api.Member{Name: "\x00", Comment: long}, api.ErrArg},
		"an extra too long, a name with a 0":        {api.Member{Name: "\x00", Extra: extra}, api.ErrArg},
		"an extra too long, a comment with a 0":     {api.Member{Comment: "\x00", Extra: extra}, api.ErrArg},
		"all too long":                              {api.Member{Name: long, Comment: long, Extra: extra}, api.ErrLong},
		"a name too long, with a sum and all flags": {api.Member{Name: long, Comment: "c", Extra: extra[:1], Sum: true, Text: true}, api.ErrLong},
	}
}

// P8.1: Sum of few bytes and of many, at the edges that the document names.
func TestSum(t *testing.T) {
	for text, want := range map[string]uint32{
		"123456789":               0xcbf43926,
		"":                        0,
		"\x00":                    0xd202ef8d,
		"\xff":                    0xff000000,
		"a":                       0xe8b7be43,
		strings.Repeat("\xff", 4): 0xffffffff,
		strings.Repeat("\x00", 4): 0x2144df1c,
	} {
		if got := gzip.Sum([]byte(text)); got != want {
			t.Errorf("Sum of %x: %x", text, got)
		}
	}
	all := noise(2, 3000)
	for n := range len(all) {
		in, unchanged := spare(t, all[:n])
		if got := gzip.Sum(in); got != modelSum(in) || got != crc32.ChecksumIEEE(in) {
			t.Fatalf("Sum of %s: %x", short(in), got)
		}
		unchanged()
	}
	for first := range 256 {
		for second := range 256 {
			b := []byte{byte(first), byte(second)}
			if gzip.Sum(b) != modelSum(b) || gzip.Sum(b[:1]) != modelSum(b[:1]) {
				t.Fatalf("Sum of %x", b)
			}
		}
	}
	if b := noise(3, 1<<24+5); gzip.Sum(b) != crc32.ChecksumIEEE(b) {
		t.Error("Sum of many bytes")
	}
}

// P8.1: Is, of all beginnings.
func TestIs(t *testing.T) {
	if gzip.Is(nil) || gzip.Is([]byte{}) {
		t.Error("Is of no bytes")
	}
	for first := range 256 {
		if gzip.Is([]byte{byte(first)}) {
			t.Errorf("Is of %x", first)
		}
		for second := range 256 {
			want := first == 0x1f && second == 0x8b
			for n := 2; n < 5; n++ {
				b := append([]byte{byte(first), byte(second)}, 0x1f, 0x8b, 8)[:n]
				if gzip.Is(b) != want {
					t.Fatalf("Is of %x: %t", b, !want)
				}
			}
		}
	}
	// What stands in the room behind is not looked at.
	if gzip.Is([]byte{0x1f, 0x8b}[:1]) || gzip.Is([]byte{0x1f, 0x8b}[:0]) {
		t.Error("Is looks behind the end")
	}
}

// The chapter's examples of Head and Encode.
func TestExamples(t *testing.T) {
	head, why := gzip.Head(api.Member{})
	if hex.EncodeToString(head) != "1f8b0800000000000000" || why != api.OK {
		t.Errorf("%x %d", head, why)
	}
	b, why := gzip.Encode([]byte("a"), api.Member{Name: "n"}, deflate.Stored)
	if hex.EncodeToString(b) != "1f8b08080000000000006e00"+"010100feff61"+"43beb7e8"+"01000000" || why != api.OK {
		t.Errorf("%x %d", b, why)
	}
}

// P8.2: heads of all members that can be; the lists that were handed in stay, and each answer is its own.
func TestHead(t *testing.T) {
	for _, m := range members() {
		var unchanged func()
		m.Extra, unchanged = spare(t, m.Extra)
		want := modelHead(m)
		got, why := gzip.Head(m)
		if why != api.OK || !bytes.Equal(got, want) {
			t.Fatalf("Head of %s: %s %d, not %s", told(m), short(got), why, short(want))
		}
		other, _ := gzip.Head(m)
		spoil(other)
		unchanged()
		if !bytes.Equal(got, want) {
			t.Fatalf("Head of %s: two answers share their memory", told(m))
		}
	}
}

// P8.2: the bytes of a head at their places.
func TestHeadBytes(t *testing.T) {
	m := api.Member{Name: "n\xe4", Comment: "c", Extra: []byte{1, 0, 2}, Time: 0x04030201, Flags: 0xfe, System: 0xfd, Text: true, Sum: true}
	head, why := gzip.Head(m)
	ahead := "\x1f\x8b\x08\x1f" + "\x01\x02\x03\x04" + "\xfe\xfd" + "\x03\x00" + "\x01\x00\x02" + "n\xe4\x00" + "c\x00"
	sum := crc32.ChecksumIEEE([]byte(ahead))
	if want := ahead + string([]byte{byte(sum), byte(sum >> 8)}); string(head) != want || why != api.OK {
		t.Errorf("%x %d, not %x", head, why, want)
	}
}

// P8.2: members that can't be, also with plain bytes or a way that can't be.
func TestRefusals(t *testing.T) {
	tooLong := make([]byte, api.MaxBlock+1)
	for name, x := range wrong() {
		if b, why := gzip.Head(x.m); b != nil || why != x.why {
			t.Errorf("Head of %s: %s %d", name, short(b), why)
		}
		for _, way := range []int{-1, deflate.Stored, deflate.Best, 4} {
			for _, plain := range [][]byte{nil, []byte("a"), tooLong} {
				if b, why := gzip.Encode(plain, x.m, way); b != nil || why != x.why {
					t.Errorf("Encode of %s, %s, %d: %s %d", short(plain), name, way, short(b), why)
				}
			}
		}
	}
	for _, m := range []api.Member{{}, {Name: "n", Sum: true}} {
		for _, way := range []int{math.MinInt, -1, 4, 5, math.MaxInt} {
			for _, plain := range [][]byte{nil, []byte("a"), tooLong} {
				if b, why := gzip.Encode(plain, m, way); b != nil || why != api.ErrArg {
					t.Errorf("Encode of %s, %d: %s %d", short(plain), way, short(b), why)
				}
			}
		}
		for _, way := range ways {
			if b, why := gzip.Encode(tooLong, m, way); b != nil || why != api.ErrLong {
				t.Errorf("Encode of %s, %d: %s %d", short(tooLong), way, short(b), why)
			}
		}
	}
}

// P8.2, P8.3, P8.5: each way, of members that can be and of plain bytes of some sizes, there and back, with most of just them and of one less.
func TestEncode(t *testing.T) {
	plains := [][]byte{nil, {}, {0}, []byte("a"), []byte("to be or not to be, that is the question"), make([]byte, 300), noise(4, 1000)}
	for _, m := range members() {
		for _, plain := range plains {
			for _, way := range ways {
				encoded(t, plain, m, way)
			}
		}
	}
	for _, n := range []int{65534, 65535, 65536, 131071} {
		encoded(t, noise(int64(n), n), api.Member{Name: "n", Sum: true}, deflate.Stored)
	}
}

// P8.2, P8.5: as many plain bytes as may be.
func TestMaxBlock(t *testing.T) {
	t.Parallel()
	for _, way := range ways {
		encoded(t, make([]byte, api.MaxBlock), api.Member{Name: "zeros", Sum: true}, way)
	}
	encoded(t, noise(5, api.MaxBlock), api.Member{}, deflate.Stored)
}

// encoded holds Encode to P8.2, P8.5 and the rules, and answers its bytes.
func encoded(t *testing.T, plain []byte, m api.Member, way int) []byte {
	t.Helper()
	in, unchanged := spare(t, plain)
	extra, extraUnchanged := spare(t, m.Extra)
	m.Extra = extra
	want := modelEncode(plain, m, way)
	got, why := gzip.Encode(in, m, way)
	if why != api.OK || !bytes.Equal(got, want) {
		t.Fatalf("Encode of %s, %s, %d: %s %d, not %s", short(plain), told(m), way, short(got), why, short(want))
	}
	other, _ := gzip.Encode(in, m, way)
	spoil(other)
	unchanged()
	extraUnchanged()
	if !bytes.Equal(got, want) {
		t.Fatalf("Encode of %s, %s, %d: two answers share their memory", short(plain), told(m), way)
	}
	back, members, why := gzip.Decode(got, len(plain))
	if why != api.OK || !bytes.Equal(back, plain) || len(members) != 1 || !same(members[0], m) {
		t.Fatalf("Decode of Encode of %s, %s, %d: %s, %d members, %d", short(plain), told(m), way, short(back), len(members), why)
	}
	if len(plain) > 0 {
		if back, members, why := gzip.Decode(got, len(plain)-1); back != nil || members != nil || why != api.ErrPlain {
			t.Fatalf("Decode of Encode of %s, with most of one less: %s, %d members, %d", short(plain), short(back), len(members), why)
		}
	}
	return got
}

// P6, P8.2: another reader of the standard reads what Encode makes, with all that it says.
func TestOtherReads(t *testing.T) {
	plain := []byte("what another reads, what another reads")
	for _, m := range members() {
		// The other one reads texts of at most 511 bytes, as Latin-1.
		if len(m.Name) > 300 || len(m.Comment) > 300 || strings.ContainsAny(m.Name+m.Comment, "\xff\x8bä") {
			continue
		}
		for _, way := range ways {
			b := encoded(t, plain, m, way)
			r, err := stdgzip.NewReader(bytes.NewReader(slices.Concat(b, b)))
			if err != nil {
				t.Fatal(told(m), err)
			}
			if r.Name != m.Name || r.Comment != m.Comment || !bytes.Equal(r.Extra, m.Extra) || r.OS != m.System || m.Time > 0 && r.ModTime.Unix() != int64(m.Time) {
				t.Fatalf("another reads of %s: %v", told(m), r.Header)
			}
			if got, err := io.ReadAll(r); err != nil || !bytes.Equal(got, slices.Concat(plain, plain)) {
				t.Fatalf("another reads of %s: %s %v", told(m), short(got), err)
			}
		}
	}
}

// P8.3, P8.4: what another writer of the standard makes is read, with all that it says.
func TestOtherWrites(t *testing.T) {
	var file bytes.Buffer
	var want []byte
	for level := stdgzip.HuffmanOnly; level <= stdgzip.BestCompression; level++ {
		w, _ := stdgzip.NewWriterLevel(&file, level)
		w.Name, w.Comment = fmt.Sprint("level ", level), "a comment"
		w.Extra, w.ModTime, w.OS = []byte{9, 9}, time.Unix(1234567890, 0), 3
		plain := bytes.Repeat(noise(6, 50), 40)
		w.Write(plain)
		w.Close()
		want = append(want, plain...)
	}
	got, told, why := gzip.Decode(file.Bytes(), len(want))
	if why != api.OK || !bytes.Equal(got, want) || len(told) != 12 {
		t.Fatalf("%s, %d members, %d", short(got), len(told), why)
	}
	for i, m := range told {
		if m.Name != fmt.Sprint("level ", i-2) || m.Comment != "a comment" || string(m.Extra) != "\t\t" || m.Time != 1234567890 || m.System != 3 || m.Text || m.Sum {
			t.Errorf("%v", m)
		}
	}
	held(t, file.Bytes(), len(want))
}
