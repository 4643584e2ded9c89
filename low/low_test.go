package low_test

import (
	"bytes"
	"testing"

	"satchel/low"
)

// Numbers of 0 to 8 bytes, there and back, the lowest byte first.
func TestNumbers(t *testing.T) {
	for _, x := range []struct {
		b string
		n uint64
	}{
		{"", 0},
		{"\x00", 0},
		{"\xff", 255},
		{"\x01\x02", 0x201},
		{"\x00\x00\x80", 0x800000},
		{"\x04\x22\x4d\x18", 0x184d2204},
		{"\xff\xff\xff\xff", 1<<32 - 1},
		{"\x01\x02\x03\x04\x05\x06\x07\x08", 0x807060504030201},
		{"\xff\xff\xff\xff\xff\xff\xff\xff", 1<<64 - 1},
	} {
		if n := low.Number([]byte(x.b)); n != x.n {
			t.Errorf("Number of %x: %x", x.b, n)
		}
		if b := low.Put(nil, x.n, len(x.b)); string(b) != x.b {
			t.Errorf("Put of %x in %d: %x", x.n, len(x.b), b)
		}
	}
}

// Put leaves what stands ahead, and what does not fit.
func TestPut(t *testing.T) {
	if b := low.Put([]byte("ahead"), 0x123456, 2); !bytes.Equal(b, []byte("ahead\x56\x34")) {
		t.Errorf("%x", b)
	}
}
