package pax_test

import (
	"bytes"
	"math/big"
	"regexp"
	"slices"
	"strconv"
	"strings"
	"testing"

	"satchel/api"
	"satchel/pax"
)

var (
	lengthAhead = regexp.MustCompile(`^([1-9][0-9]{0,6}) `)
	lengthOpen  = regexp.MustCompile(`^[1-9][0-9]{0,6}$`)
	keyAndValue = regexp.MustCompile(`^([^=\x00]+)=([^\x00]*)$`)
	timeText    = regexp.MustCompile(`^(-?)([0-9]+)(?:\.([0-9]*))?$`)
	billion     = big.NewInt(1e9)
)

// modelParse is P14.1 as the chapter says it.
func modelParse(b []byte) ([]api.Pair, int, api.Errno) {
	var l []api.Pair
	for p := 0; p < len(b); {
		rest := b[p:]
		if lengthOpen.Match(rest) {
			return nil, len(b), api.ErrShort
		}
		ahead := lengthAhead.FindSubmatch(rest)
		if ahead == nil {
			return nil, p, api.ErrLength
		}
		n, _ := strconv.Atoi(string(ahead[1]))
		behind := len(ahead[0])
		if n < behind+3 {
			return nil, p, api.ErrLength
		}
		if n > len(rest) {
			return nil, len(b), api.ErrShort
		}
		if rest[n-1] != '\n' {
			return nil, p + n - 1, api.ErrRecord
		}
		said := keyAndValue.FindSubmatch(rest[behind : n-1])
		if said == nil {
			return nil, p + behind, api.ErrKey
		}
		l = append(l, api.Pair{Key: string(said[1]), Value: string(said[2])})
		p += n
	}
	return l, 0, api.OK
}

// record is the record of a key and a value whose length has so many digits; empty, if none is right.
func record(p api.Pair, digits int) string {
	body := " " + p.Key + "=" + p.Value + "\n"
	if n := strconv.Itoa(digits + len(body)); len(n) == digits {
		return n + body
	}
	return ""
}

// modelPrint is P14.2 as the chapter says it.
func modelPrint(l []api.Pair) ([]byte, api.Errno) {
	for _, p := range l {
		if p.Key == "" || strings.IndexByte(p.Key, '=') >= 0 || strings.IndexByte(p.Key+p.Value, 0) >= 0 {
			return nil, api.ErrKey
		}
	}
	var b bytes.Buffer
	for _, p := range l {
		text := ""
		for digits := 1; digits <= 7 && text == ""; digits++ {
			text = record(p, digits)
		}
		if text == "" {
			return nil, api.ErrLong
		}
		b.WriteString(text)
	}
	return b.Bytes(), api.OK
}

// modelMerge is P14.3 as the chapter says it.
func modelMerge(below, above []api.Pair) []api.Pair {
	both := slices.Concat(below, above)
	var l []api.Pair
	for i, p := range both {
		later := slices.ContainsFunc(both[i+1:], func(x api.Pair) bool { return x.Key == p.Key })
		if !later && p.Value != "" {
			l = append(l, p)
		}
	}
	slices.SortFunc(l, func(x, y api.Pair) int { return bytes.Compare([]byte(x.Key), []byte(y.Key)) })
	return l
}

// modelFind is P14.3 as the chapter says it.
func modelFind(l []api.Pair, key string) (string, bool) {
	value, found := "", false
	for _, p := range l {
		if p.Key == key {
			value, found = p.Value, true
		}
	}
	return value, found
}

// modelNumber is P14.4 as the chapter says it.
func modelNumber(s string) (int64, api.Errno) {
	for i := range len(s) {
		if strings.IndexByte("0123456789", s[i]) < 0 {
			return 0, api.ErrDigit
		}
	}
	n, ok := new(big.Int).SetString(s, 10)
	if !ok {
		return 0, api.ErrDigit
	}
	if !n.IsInt64() {
		return 0, api.ErrBig
	}
	return n.Int64(), api.OK
}

// nanoseconds is the number of a time's text, cut to nine digits; false, if the text is none.
func nanoseconds(s string) (*big.Int, bool) {
	m := timeText.FindStringSubmatch(s)
	if m == nil {
		return nil, false
	}
	n, _ := new(big.Int).SetString(m[2]+(m[3] + "000000000")[:9], 10)
	if m[1] == "-" {
		n.Neg(n)
	}
	return n, true
}

// modelTime is P14.5 as the chapter says it.
func modelTime(s string) (int64, int32, api.Errno) {
	n, ok := nanoseconds(s)
	if !ok {
		return 0, 0, api.ErrDigit
	}
	if whole := new(big.Int).Quo(n, billion); !whole.Abs(whole).IsInt64() {
		return 0, 0, api.ErrBig
	}
	floor, above := new(big.Int).DivMod(n, billion, new(big.Int))
	return floor.Int64(), int32(above.Int64()), api.OK
}

// together is seconds and nanoseconds as nanoseconds.
func together(seconds int64, nano int32) *big.Int {
	n := new(big.Int).Mul(big.NewInt(seconds), billion)
	return n.Add(n, big.NewInt(int64(nano)))
}

// modelPutTime is P14.5 as the chapter says it.
func modelPutTime(seconds int64, nano int32) (string, api.Errno) {
	if nano < 0 || nano > 999999999 {
		return "", api.ErrArg
	}
	s := new(big.Rat).SetFrac(together(seconds, nano), billion).FloatString(9)
	whole, rest, _ := strings.Cut(s, ".")
	if rest = strings.TrimRight(rest, "0"); rest != "" {
		return whole + "." + rest, api.OK
	}
	return whole, api.OK
}

// spare is a list with marked room behind it, and whether both are still as they were.
func spare[E comparable](l []E, mark E) ([]E, func() bool) {
	full := slices.Concat(l, slices.Repeat([]E{mark}, 9))
	was := slices.Clone(full)
	return full[:len(l)], func() bool { return slices.Equal(full, was) }
}

// spoil writes over all of a list that was answered, its room included.
func spoil[E any](l []E, mark E) {
	l = l[:cap(l)]
	for i := range l {
		l[i] = mark
	}
}

var spoiled = api.Pair{Key: "spoiled", Value: "spoiled"}

// heldParse holds Parse of bytes to the model: twice, the first answer written over in between, and then the bytes.
func heldParse(t *testing.T, b []byte) ([]api.Pair, api.Errno) {
	t.Helper()
	want, place, refused := modelParse(b)
	list, same := spare(b, 0xa5)
	for range 2 {
		l, at, why := pax.Parse(list)
		if !slices.Equal(l, want) || at != place || why != refused {
			t.Fatalf("Parse(%q): %q %d %d, not %q %d %d", b, l, at, why, want, place, refused)
		}
		spoil(l, spoiled)
	}
	if !same() {
		t.Fatalf("Parse(%q) changed what it was handed", b)
	}
	l, _, _ := pax.Parse(list)
	spoil(list, 0xa5)
	if !slices.Equal(l, want) {
		t.Fatalf("Parse(%q) shares the bytes", b)
	}
	return l, refused
}

// heldPrint holds Print of pairs to the model: twice, the first answer written over in between.
func heldPrint(t *testing.T, l []api.Pair) ([]byte, api.Errno) {
	t.Helper()
	want, refused := modelPrint(l)
	list, same := spare(l, spoiled)
	for range 2 {
		b, why := pax.Print(list)
		if !bytes.Equal(b, want) || why != refused {
			t.Fatalf("Print(%.99q): %.99q %d, not %.99q %d", l, b, why, want, refused)
		}
		spoil(b, 0xa5)
	}
	if !same() {
		t.Fatalf("Print(%.99q) changed what it was handed", l)
	}
	return want, refused
}

// heldMerge holds Merge of two lists to the model: twice, the first answer written over in between, and then the lists.
func heldMerge(t *testing.T, below, above []api.Pair) []api.Pair {
	t.Helper()
	want := modelMerge(below, above)
	x, sameBelow := spare(below, spoiled)
	y, sameAbove := spare(above, spoiled)
	for range 2 {
		l := pax.Merge(x, y)
		if !slices.Equal(l, want) {
			t.Fatalf("Merge(%q, %q): %q, not %q", below, above, l, want)
		}
		spoil(l, spoiled)
	}
	if !sameBelow() || !sameAbove() {
		t.Fatalf("Merge(%q, %q) changed what it was handed", below, above)
	}
	l := pax.Merge(x, y)
	spoil(x, spoiled)
	spoil(y, spoiled)
	if !slices.Equal(l, want) {
		t.Fatalf("Merge(%q, %q) shares a list", below, above)
	}
	return l
}

// heldFind holds Find of a key to the model.
func heldFind(t *testing.T, l []api.Pair, key string) (string, bool) {
	t.Helper()
	want, there := modelFind(l, key)
	list, same := spare(l, spoiled)
	value, found := pax.Find(list, key)
	if value != want || found != there {
		t.Fatalf("Find(%q, %q): %q %v, not %q %v", l, key, value, found, want, there)
	}
	if !same() {
		t.Fatalf("Find(%q, %q) changed what it was handed", l, key)
	}
	return value, found
}

// heldNumber holds Number of a text to the model.
func heldNumber(t *testing.T, s string) (int64, api.Errno) {
	t.Helper()
	want, refused := modelNumber(s)
	n, why := pax.Number(s)
	if n != want || why != refused {
		t.Fatalf("Number(%.99q): %d %d, not %d %d", s, n, why, want, refused)
	}
	return n, why
}

// heldTime holds Time of a text to the model.
func heldTime(t *testing.T, s string) (int64, int32, api.Errno) {
	t.Helper()
	want, rest, refused := modelTime(s)
	seconds, nano, why := pax.Time(s)
	if seconds != want || nano != rest || why != refused {
		t.Fatalf("Time(%.99q): %d %d %d, not %d %d %d", s, seconds, nano, why, want, rest, refused)
	}
	return seconds, nano, why
}

// heldPutTime holds PutTime of a time to the model.
func heldPutTime(t *testing.T, seconds int64, nano int32) (string, api.Errno) {
	t.Helper()
	want, refused := modelPutTime(seconds, nano)
	s, why := pax.PutTime(seconds, nano)
	if s != want || why != refused {
		t.Fatalf("PutTime(%d, %d): %q %d, not %q %d", seconds, nano, s, why, want, refused)
	}
	return s, why
}

// allTexts are the texts of at most so many bytes of an alphabet.
func allTexts(alphabet string, most int) []string {
	all, last := []string{""}, []string{""}
	for range most {
		var longer []string
		for _, s := range last {
			for i := range len(alphabet) {
				longer = append(longer, s+alphabet[i:i+1])
			}
		}
		all, last = append(all, longer...), longer
	}
	return all
}
