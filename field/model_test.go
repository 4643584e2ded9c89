package field_test

import (
	"bytes"
	"math"
	"math/big"
	"math/rand"
	"regexp"
	"strings"
	"testing"

	"satchel/api"
	"satchel/field"
)

// octalField is what an octal field is, in the order of the chapter's words.
var octalField = regexp.MustCompile(`\A\x20*([0-7]*)[\x20\x00]*\z`)

// power is 2 to the n.
func power(n int) *big.Int {
	return new(big.Int).Lsh(big.NewInt(1), uint(n))
}

// plus is the sum of a whole number and a small one.
func plus(n *big.Int, more int64) *big.Int {
	return new(big.Int).Add(n, big.NewInt(more))
}

// within is a whole number as an int64, if it is one.
func within(n *big.Int) (int64, api.Errno) {
	if n.Cmp(big.NewInt(math.MinInt64)) < 0 || n.Cmp(big.NewInt(math.MaxInt64)) > 0 {
		return 0, api.ErrBig
	}
	return n.Int64(), api.OK
}

func modelOctal(b []byte) (int64, api.Errno) {
	m := octalField.FindSubmatch(b)
	if m == nil {
		return 0, api.ErrDigit
	}
	n, ok := new(big.Int).SetString("0"+string(m[1]), 8)
	if !ok {
		panic("digits that are none")
	}
	return within(n)
}

func modelBinary(b []byte) (int64, api.Errno) {
	if len(b) < 2 || b[0] < 128 {
		return 0, api.ErrDigit
	}
	n := new(big.Int).SetBytes(b)
	n.SetBit(n, 8*len(b)-1, 0)
	if b[0]&64 != 0 {
		n.Sub(n, power(8*len(b)-1))
	}
	return within(n)
}

func modelNumber(b []byte) (int64, api.Errno) {
	if len(b) > 0 && b[0] >= 128 {
		return modelBinary(b)
	}
	return modelOctal(b)
}

func modelPutOctal(n int64, width int) ([]byte, api.Errno) {
	if width < 2 || width > 512 {
		return nil, api.ErrArg
	}
	if n < 0 {
		return nil, api.ErrWide
	}
	digits := big.NewInt(n).Text(8)
	if n == 0 {
		digits = ""
	}
	if len(digits) > width-1 {
		return nil, api.ErrWide
	}
	return []byte(strings.Repeat("0", width-1-len(digits)) + digits + "\x00"), api.OK
}

// binaryOf is the binary field of so many bytes that has the number, if there is one.
func binaryOf(n *big.Int, width int) ([]byte, bool) {
	edge := power(8*width - 2)
	if n.Cmp(edge) >= 0 || n.Cmp(new(big.Int).Neg(edge)) < 0 {
		return nil, false
	}
	bits := new(big.Int).Set(n)
	if n.Sign() < 0 {
		bits.Add(bits, power(8*width-1))
	}
	bits.SetBit(bits, 8*width-1, 1)
	return bits.FillBytes(make([]byte, width)), true
}

func modelPutBinary(n int64, width int) ([]byte, api.Errno) {
	if width < 2 || width > 512 {
		return nil, api.ErrArg
	}
	b, ok := binaryOf(big.NewInt(n), width)
	if !ok {
		return nil, api.ErrWide
	}
	return b, api.OK
}

func modelPutNumber(n int64, width int) ([]byte, api.Errno) {
	b, why := modelPutOctal(n, width)
	if why != api.OK {
		b, why = modelPutBinary(n, width)
	}
	return b, why
}

func modelPutText(s string, width int) ([]byte, api.Errno) {
	if width < 1 || width > 512 {
		return nil, api.ErrArg
	}
	for i := range len(s) {
		if s[i] == 0 {
			return nil, api.ErrArg
		}
	}
	if len(s) > width {
		return nil, api.ErrWide
	}
	return []byte(s + strings.Repeat("\x00", width-len(s))), api.OK
}

func modelSums(r [512]byte) (int64, int64) {
	var one, two int64
	for i, x := range r {
		if i >= 148 && i <= 155 {
			x = 32
		}
		one += int64(x)
		two += int64(x)
		if x >= 128 {
			two -= 256
		}
	}
	return one, two
}

func modelCheck(r [512]byte) bool {
	one, two := modelSums(r)
	n, why := modelOctal(r[148:156])
	return why == api.OK && (n == one || n == two)
}

// mark stands in the spare room of what is handed in.
const mark = 0xa5

// spare is the bytes with room behind them, and whether they and the room are as they were.
func spare(b []byte) ([]byte, func() bool) {
	list := make([]byte, len(b), len(b)+9)
	copy(list, b)
	behind := list[len(b):cap(list)]
	for i := range behind {
		behind[i] = mark
	}
	room := bytes.Clone(behind)
	return list, func() bool { return bytes.Equal(list, b) && bytes.Equal(behind, room) }
}

// spoil writes over all of a list that was answered, its room included.
func spoil(b []byte) {
	b = b[:cap(b)]
	for i := range b {
		b[i] = mark
	}
}

// heldRead holds Octal, Binary and Number of bytes to the model, and answers Number's.
func heldRead(t *testing.T, b []byte) (int64, api.Errno) {
	t.Helper()
	in, unchanged := spare(b)
	for _, x := range []struct {
		name string
		call func([]byte) (int64, api.Errno)
		want func([]byte) (int64, api.Errno)
	}{
		{"Octal", field.Octal, modelOctal},
		{"Binary", field.Binary, modelBinary},
		{"Number", field.Number, modelNumber},
	} {
		n, why := x.want(b)
		if got, err := x.call(in); got != n || err != why {
			t.Fatalf("%s(%x): %d %d, not %d %d", x.name, b, got, err, n, why)
		}
		if !unchanged() {
			t.Fatalf("%s(%x) changes what it is handed", x.name, b)
		}
	}
	return modelNumber(b)
}

// reading is what a call must answer of bytes.
type reading struct {
	b   string
	n   int64
	why api.Errno
}

// heldReadings holds a call to each of the readings, and all three calls to the model there.
func heldReadings(t *testing.T, name string, call func([]byte) (int64, api.Errno), l []reading) {
	t.Helper()
	for _, x := range l {
		if n, why := call([]byte(x.b)); n != x.n || why != x.why {
			t.Errorf("%s(%q): %d %d, not %d %d", name, x.b, n, why, x.n, x.why)
		}
		heldRead(t, []byte(x.b))
	}
	want, err := call([]byte{})
	if n, why := call(nil); n != want || why != err {
		t.Errorf("%s of nil: %d %d", name, n, why)
	}
}

// heldPut holds PutOctal, PutBinary and PutNumber to the model, what they answer to P12.5, and answers PutNumber's error.
func heldPut(t *testing.T, n int64, width int) api.Errno {
	t.Helper()
	for _, x := range []struct {
		name string
		call func(int64, int) ([]byte, api.Errno)
		want func(int64, int) ([]byte, api.Errno)
		back func([]byte) (int64, api.Errno)
	}{
		{"PutOctal", field.PutOctal, modelPutOctal, field.Octal},
		{"PutBinary", field.PutBinary, modelPutBinary, field.Binary},
		{"PutNumber", field.PutNumber, modelPutNumber, field.Number},
	} {
		b, why := x.want(n, width)
		for range 2 { // what is done to the first answer is not seen in the second one
			got, err := x.call(n, width)
			if err != why || !bytes.Equal(got, b) || why != api.OK && got != nil {
				t.Fatalf("%s(%d, %d): %x %d, not %x %d", x.name, n, width, got, err, b, why)
			}
			if why == api.OK {
				if again, err := x.back(got); again != n || err != api.OK {
					t.Fatalf("%s(%d, %d) is read as %d %d", x.name, n, width, again, err)
				}
			}
			spoil(got)
		}
	}
	_, why := modelPutNumber(n, width)
	return why
}

// heldPutText holds PutText to the model, what it answers to P12.6, and answers its error.
func heldPutText(t *testing.T, s string, width int) api.Errno {
	t.Helper()
	want, why := modelPutText(s, width)
	for range 2 {
		got, err := field.PutText(s, width)
		if err != why || !bytes.Equal(got, want) || why != api.OK && got != nil {
			t.Fatalf("PutText(%.40q, %d): %.40q %d, not %.40q %d", s, width, got, err, want, why)
		}
		if why == api.OK && field.Text(got) != s {
			t.Fatalf("PutText(%.40q, %d) is read as %.40q", s, width, field.Text(got))
		}
		spoil(got)
	}
	return why
}

// heldRecord holds Sums, Check, PutSum and Zero of a record to the model, and PutSum's to P12.7; it answers Check's.
func heldRecord(t *testing.T, r [512]byte) bool {
	t.Helper()
	was := r
	one, two := modelSums(r)
	if a, b := field.Sums(r); a != one || b != two {
		t.Fatalf("Sums: %d %d, not %d %d: %x", a, b, one, two, r)
	}
	if got := field.Check(r); got != modelCheck(r) {
		t.Fatalf("Check: %t: %x", got, r)
	}
	if got := field.Zero(r); got != (strings.Trim(string(r[:]), "\x00") == "") {
		t.Fatalf("Zero: %t: %x", got, r)
	}
	want := r
	digits := big.NewInt(one).Text(8)
	copy(want[148:156], strings.Repeat("0", 6-len(digits))+digits+"\x00 ")
	put := field.PutSum(r)
	if put != want {
		t.Fatalf("PutSum: %q, of %x", put[148:156], r)
	}
	if !field.Check(put) {
		t.Fatalf("PutSum's is refused: %x", put)
	}
	if r != was {
		t.Fatal("the record was changed")
	}
	return modelCheck(r)
}

// edges are the numbers at which something becomes another: the powers of 2, and those beside them, on either side of 0.
func edges() []int64 {
	l := []int64{math.MinInt64, math.MinInt64 + 1, math.MaxInt64}
	for i := range 63 {
		for _, more := range []int64{-1, 0, 1} {
			l = append(l, 1<<i+more, -1<<i+more)
		}
	}
	return l
}

// all are all texts of so many of the bytes.
func all(from string, n int) []string {
	l := []string{""}
	for range n {
		var longer []string
		for _, text := range l {
			for i := range len(from) {
				longer = append(longer, text+from[i:i+1])
			}
		}
		l = longer
	}
	return l
}

// noise is so many bytes by chance.
func noise(r *rand.Rand, n int) []byte {
	b := make([]byte, n)
	r.Read(b)
	return b
}
