package field_test

import (
	"fmt"
	"math/rand"
	"testing"

	"satchel/api"
	"satchel/field"
)

// full is a record of one byte.
func full(x byte) [api.Record]byte {
	var r [api.Record]byte
	for i := range r {
		r[i] = x
	}
	return r
}

// says is the record with that in its sum's field.
func says(r [api.Record]byte, text string) [api.Record]byte {
	if len(text) != 8 {
		panic("a sum's field has eight bytes: " + text)
	}
	copy(r[148:156], text)
	return r
}

// P12.4: Sums of records of one byte: the two are one up to 127, and differ from there on.
func TestSums(t *testing.T) {
	for _, x := range []struct {
		b        byte
		one, two int64
	}{
		{0, 256, 256},
		{1, 760, 760},
		{32, 16384, 16384},
		{127, 64264, 64264},
		{128, 64768, -64256},
		{255, 128776, -248},
	} {
		if one, two := field.Sums(full(x.b)); one != x.one || two != x.two {
			t.Errorf("Sums of %d: %d %d", x.b, one, two)
		}
	}
	for x := range 256 {
		heldRecord(t, full(byte(x)))
	}
}

// P12.4: each byte at each place alone counts once, and those of the sum's field not at all.
func TestSumsPlaces(t *testing.T) {
	t.Parallel()
	for at := range api.Record {
		for _, x := range []byte{1, 2, 32, 127, 128, 129, 255} {
			var r [api.Record]byte
			r[at] = x
			one, two := field.Sums(r)
			wantOne, wantTwo := int64(256)+int64(x), int64(256)+int64(int8(x))
			if at >= 148 && at < 156 {
				wantOne, wantTwo = 256, 256
			}
			if one != wantOne || two != wantTwo {
				t.Fatalf("%d at %d: %d %d", x, at, one, two)
			}
			heldRecord(t, r)
		}
	}
}

// P12.4: Zero, of zeros and of records with one byte that is none, at each place.
func TestZero(t *testing.T) {
	var r [api.Record]byte
	if !field.Zero(r) {
		t.Error("zeros")
	}
	for at := range r {
		for bit := range 8 {
			other := r
			other[at] = 1 << bit
			if field.Zero(other) {
				t.Errorf("%d at %d", other[at], at)
			}
		}
	}
	if field.Zero(field.PutSum(r)) {
		t.Error("zeros with their sum")
	}
}

// P12.4: what PutSum writes, and that it writes nowhere else.
func TestPutSum(t *testing.T) {
	for _, x := range []struct {
		r    [api.Record]byte
		want string
	}{
		{full(0), "000400\x00 "},
		{full(1), "001370\x00 "},
		{full(32), "040000\x00 "},
		{full(128), "176400\x00 "},
		{full(255), "373410\x00 "},
		{says(full(0), "\xff\xff\xff\xff\xff\xff\xff\xff"), "000400\x00 "},
	} {
		got := field.PutSum(x.r)
		if string(got[148:156]) != x.want {
			t.Errorf("%q, not %q", got[148:156], x.want)
		}
		if got != says(x.r, x.want) {
			t.Errorf("more than the sum's field, with %q", x.want)
		}
		if again := field.PutSum(got); again != got {
			t.Errorf("a second time: %q", again[148:156])
		}
		heldRecord(t, x.r)
	}
}

// P12.4: a sum's field of either sum, however it says it, and ones that do not.
func TestCheck(t *testing.T) {
	high := full(0)
	high[0], high[511] = 255, 200 // sums of 711 (1307) and 199 (307)
	even := full(0)
	even[7], even[300] = 128, 128 // sums of 512 (1000) and 0
	below := full(255)            // sums of 128776 (373410) and -248
	for _, x := range []struct {
		r     [api.Record]byte
		field string
		want  bool
	}{
		{full(0), "\x00\x00\x00\x00\x00\x00\x00\x00", false},
		{full(0), "        ", false},
		{full(0), "00000000", false},
		{full(0), "000400\x00 ", true},
		{full(0), "000400 \x00", true},
		{full(0), "00000400", true},
		{full(0), "     400", true},
		{full(0), "400\x00\x00\x00\x00\x00", true},
		{full(0), "400     ", true},
		{full(0), "  400 \x00 ", true},
		{full(0), "  00400\x00", true},
		{full(0), "000401\x00 ", false},
		{full(0), "000377\x00 ", false},
		{full(0), "00000256", false},
		{full(0), "04000\x00\x00 ", false},

		{high, "001307\x00 ", true},
		{high, "000307\x00 ", true},
		{high, " 1307\x00  ", true},
		{high, "   307\x00 ", true},
		{high, "307\x00\x00\x00\x00\x00", true},
		{high, "001306\x00 ", false},
		{high, "001310\x00 ", false},
		{high, "000306\x00 ", false},
		{high, "000310\x00 ", false},
		{high, "000707\x00 ", false}, // between the two

		{even, "001000\x00 ", true},
		{even, "\x00\x00\x00\x00\x00\x00\x00\x00", true},
		{even, "        ", true},
		{even, "000000\x00 ", true},
		{even, "8       ", false},

		{below, "373410\x00 ", true},
		{below, "0000370 ", false}, // 248
		{below, "\xff\xff\xff\xff\xff\xff\xff\x08", false},
		{below, "-0000370", false},

		{full(0), "\x80\x00\x00\x00\x00\x00\x01\x00", false}, // 256, but no octal field
		{full(0), "00040x\x00 ", false},
		{full(0), "400    8", false},
		{full(0), "\x00400    ", false},
		{full(0), "4 00    ", false},
		{full(0), "8000000 ", false},
		{full(0), "+400    ", false},
		{full(0), "77777777", false},
		{full(0), "2000400 ", false}, // the sum and 2^19
		{full(0), "10000400", false},
		{full(255), "77777777", false},
	} {
		r := says(x.r, x.field)
		if got := field.Check(r); got != x.want {
			t.Errorf("%q: %t", x.field, got)
		}
		heldRecord(t, r)
	}
}

// P12.4: each byte that the sum's field can have at each of its places.
func TestCheckBytes(t *testing.T) {
	t.Parallel()
	for _, text := range []string{"000400\x00 ", "     400", "400\x00\x00\x00\x00\x00"} {
		for at := range len(text) {
			for x := range 256 {
				r := says(full(0), text)
				r[148+at] = byte(x)
				heldRecord(t, r)
			}
		}
	}
}

// P12.7: a byte turned outside of the sum's field, at each place into each other one.
func TestTurned(t *testing.T) {
	t.Parallel()
	r := rand.New(rand.NewSource(12))
	for _, record := range [][api.Record]byte{full(0), full(255), full(128), chance(r)} {
		record = field.PutSum(record)
		was, _ := field.Sums(record)
		for at := range record {
			for x := range 256 {
				other := record
				other[at] = byte(x)
				if at >= 148 && at < 156 || other == record {
					continue
				}
				one, two := field.Sums(other)
				if one == was {
					t.Fatalf("%d at %d: the sum is as it was", x, at)
				}
				if field.Check(other) != (two == was) {
					t.Fatalf("%d at %d: Check", x, at)
				}
			}
		}
	}
}

// chance is a record by chance, in some of them with few bytes above 127.
func chance(r *rand.Rand) [api.Record]byte {
	record := [api.Record]byte(noise(r, api.Record))
	if r.Intn(2) == 0 {
		for i := range record {
			if r.Intn(16) > 0 {
				record[i] &= 127
			}
		}
	}
	return record
}

// P12.4, P12.7: records by chance, with either sum or one beside it in the field, told in many ways.
func TestRecordChance(t *testing.T) {
	t.Parallel()
	r := rand.New(rand.NewSource(12))
	seen := make(map[bool]int)
	for range 4000 {
		record := chance(r)
		seen[heldRecord(t, record)]++
		one, two := modelSums(record)
		for _, n := range []int64{one, two, one + 1, one - 1, two + 1, two - 1, one &^ 1, 0} {
			if n < 0 {
				continue
			}
			for _, how := range []string{"%06o\x00 ", "%8o", "%08o", "%-8o", "%07o ", "%06o \x00", " %06o\x00"} {
				seen[heldRecord(t, says(record, fmt.Sprintf(how, n)))]++
			}
		}
	}
	if seen[true] < 10000 || seen[false] < 10000 {
		t.Errorf("%d that are right, %d that are not", seen[true], seen[false])
	}
}
