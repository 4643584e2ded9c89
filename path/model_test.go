package path_test

import (
	"math/rand"
	"slices"
	"strings"
	"testing"

	"satchel/api"
	"satchel/path"
)

// modelPieces are what stands between a name's slashes, found byte by byte.
func modelPieces(name string) []string {
	var pieces []string
	from := 0
	for i := range len(name) {
		if name[i] == '/' {
			pieces = append(pieces, name[from:i])
			from = i + 1
		}
	}
	return append(pieces, name[from:])
}

func modelComponents(name string) []string {
	var parts []string
	for _, piece := range modelPieces(name) {
		if piece != "" && piece != "." {
			parts = append(parts, piece)
		}
	}
	return parts
}

// modelSplit is P9.1's, in the order of its words.
func modelSplit(name string) ([]string, api.Errno) {
	if len(name) > 4096 {
		return nil, api.ErrLong
	}
	if strings.IndexByte(name, 0) >= 0 {
		return nil, api.ErrZero
	}
	if len(name) > 0 && name[0] == '/' {
		return nil, api.ErrAbsolute
	}
	if slices.Contains(modelPieces(name), "..") {
		return nil, api.ErrDots
	}
	parts := modelComponents(name)
	if len(parts) == 0 {
		return nil, api.ErrEmpty
	}
	for _, part := range parts {
		if len(part) > 255 {
			return nil, api.ErrName
		}
	}
	if len(parts) > 256 {
		return nil, api.ErrDeep
	}
	return parts, api.OK
}

// modelJoin is P9.2's, in the order of its words.
func modelJoin(parts []string) (string, api.Errno) {
	if len(parts) == 0 {
		return "", api.ErrEmpty
	}
	name := ""
	for i, part := range parts {
		if part == "" || part == "." {
			return "", api.ErrEmpty
		}
		if part == ".." {
			return "", api.ErrDots
		}
		if strings.IndexByte(part, 0) >= 0 {
			return "", api.ErrZero
		}
		if strings.IndexByte(part, '/') >= 0 {
			return "", api.ErrAbsolute
		}
		if len(part) > 255 {
			return "", api.ErrName
		}
		if i > 0 {
			name += "/"
		}
		name += part
	}
	if len(parts) > 256 {
		return "", api.ErrDeep
	}
	if len(name) > 4096 {
		return "", api.ErrLong
	}
	return name, api.OK
}

func modelClean(name string) (string, api.Errno) {
	parts, why := modelSplit(name)
	if why != api.OK {
		return "", why
	}
	return modelJoin(parts)
}

// modelText is which of two texts stands ahead, byte by byte.
func modelText(a, b string) int {
	for i := 0; i < len(a) || i < len(b); i++ {
		switch {
		case i == len(a):
			return -1
		case i == len(b):
			return 1
		case a[i] < b[i]:
			return -1
		case a[i] > b[i]:
			return 1
		}
	}
	return 0
}

func modelCompare(a, b []string) int {
	for i := 0; i < len(a) || i < len(b); i++ {
		switch {
		case i == len(a):
			return -1
		case i == len(b):
			return 1
		}
		if x := modelText(a[i], b[i]); x != 0 {
			return x
		}
	}
	return 0
}

func modelUnder(a, b []string) bool {
	if len(a) <= len(b) {
		return false
	}
	for i := range b {
		if a[i] != b[i] {
			return false
		}
	}
	return true
}

// modelLeaves goes as a walker does that knows where it stands.
func modelLeaves(dir []string, target string) bool {
	if len(target) > 0 && target[0] == '/' {
		return true
	}
	stands := slices.Clone(dir)
	for _, piece := range modelPieces(target) {
		switch piece {
		case "", ".":
		case "..":
			if len(stands) == 0 {
				return true
			}
			stands = stands[:len(stands)-1]
		default:
			stands = append(stands, piece)
		}
	}
	return false
}

// mark stands in the spare room of what is handed in.
const mark = "spare"

// spare is the list with room behind it, and whether it and the room are as they were.
func spare(parts []string) ([]string, func() bool) {
	list := make([]string, len(parts), len(parts)+3)
	copy(list, parts)
	behind := list[len(parts):cap(list)]
	for i := range behind {
		behind[i] = mark
	}
	return list, func() bool {
		return slices.Equal(list, parts) && !slices.ContainsFunc(behind, func(x string) bool { return x != mark })
	}
}

// spoil writes over all of a list that was answered, its room included.
func spoil(parts []string) {
	parts = parts[:cap(parts)]
	for i := range parts {
		parts[i] = "spoilt"
	}
}

// short is enough of what a test tells.
func short(parts []string) string {
	text := strings.Join(parts, " | ")
	return text[:min(len(text), 90)]
}

// heldName holds Split and Clean of a name to the model, and answers Split's error.
func heldName(t *testing.T, name string) api.Errno {
	t.Helper()
	want, why := modelSplit(name)
	for range 2 { // what is done to the first answer is not seen in the second one
		got, err := path.Split(name)
		if err != why || !slices.Equal(got, want) {
			t.Fatalf("Split(%.90q): %.90q %d, not %.90q %d", name, short(got), err, short(want), why)
		}
		spoil(got)
	}
	one, why := modelClean(name)
	if got, err := path.Clean(name); got != one || err != why {
		t.Fatalf("Clean(%.90q): %.90q %d, not %.90q %d", name, got, err, one, why)
	}
	if why == api.OK {
		heldSafe(t, name, want, one)
	}
	return why
}

// heldSafe holds a name that Split takes to P9.6 and P9.7.
func heldSafe(t *testing.T, name string, parts []string, one string) {
	t.Helper()
	joined, why := path.Join(parts)
	if joined != one || why != api.OK {
		t.Fatalf("%.90q: Join of its components: %.90q %d", name, joined, why)
	}
	if again, why := path.Split(joined); !slices.Equal(again, parts) || why != api.OK {
		t.Fatalf("%.90q: Split of Join: %.90q %d", name, short(again), why)
	}
	if again, why := path.Clean(one); again != one || why != api.OK {
		t.Fatalf("%.90q: Clean of Clean: %.90q %d", name, again, why)
	}
	for _, dir := range [][]string{nil, {"a"}, {"a", "b"}, {"..", ".."}, {""}} {
		if path.Leaves(dir, joined) || path.Leaves(dir, name) {
			t.Fatalf("%.90q leaves from %q", name, dir)
		}
	}
}

// heldParts holds Join of parts to the model, and answers its error.
func heldParts(t *testing.T, parts []string) api.Errno {
	t.Helper()
	want, why := modelJoin(parts)
	list, unchanged := spare(parts)
	if got, err := path.Join(list); got != want || err != why {
		t.Fatalf("Join(%.90q): %.90q %d, not %.90q %d", short(parts), got, err, want, why)
	}
	if !unchanged() {
		t.Fatalf("Join(%.90q) changes what it is handed", short(parts))
	}
	return why
}

// heldPlace holds Place to the model, and answers its error.
func heldPlace(t *testing.T, dir, parts []string) api.Errno {
	t.Helper()
	want := append(slices.Clone(dir), parts...)
	_, why := modelJoin(want)
	if why != api.OK {
		want = nil
	}
	one, oneUnchanged := spare(dir)
	two, twoUnchanged := spare(parts)
	for range 2 {
		got, err := path.Place(one, two)
		if err != why || !slices.Equal(got, want) || why != api.OK && got != nil {
			t.Fatalf("Place(%.90q, %.90q): %.90q %d, not %.90q %d", short(dir), short(parts), short(got), err, short(want), why)
		}
		spoil(got)
		if !oneUnchanged() || !twoUnchanged() {
			t.Fatalf("Place(%.90q, %.90q) changes what it is handed, or shares it", short(dir), short(parts))
		}
	}
	return why
}

// heldStrip holds Strip to P9.4, and answers whether it took.
func heldStrip(t *testing.T, parts []string, n int) bool {
	t.Helper()
	list, unchanged := spare(parts)
	may := n >= 0 && n < len(parts)
	var want []string
	for i := range parts {
		if may && i >= n {
			want = append(want, parts[i])
		}
	}
	for range 2 {
		got, ok := path.Strip(list, n)
		if ok != may || !slices.Equal(got, want) || !ok && got != nil {
			t.Fatalf("Strip(%.90q, %d): %.90q %t", short(parts), n, short(got), ok)
		}
		spoil(got)
		if !unchanged() {
			t.Fatalf("Strip(%.90q, %d) changes what it is handed, or shares it", short(parts), n)
		}
	}
	return may
}

// heldTwo holds Compare and Under of two lists to the model.
func heldTwo(t *testing.T, a, b []string) {
	t.Helper()
	one, oneUnchanged := spare(a)
	two, twoUnchanged := spare(b)
	if got, want := path.Compare(one, two), modelCompare(a, b); got != want {
		t.Fatalf("Compare(%q, %q): %d, not %d", a, b, got, want)
	}
	if got, want := path.Under(one, two), modelUnder(a, b); got != want {
		t.Fatalf("Under(%q, %q): %t, not %t", a, b, got, want)
	}
	if !oneUnchanged() || !twoUnchanged() {
		t.Fatalf("%q, %q: changed", a, b)
	}
}

// heldTarget holds Leaves to the model, and answers it.
func heldTarget(t *testing.T, dir []string, target string) bool {
	t.Helper()
	list, unchanged := spare(dir)
	want := modelLeaves(dir, target)
	if got := path.Leaves(list, target); got != want {
		t.Fatalf("Leaves(%q, %.90q): %t, not %t", dir, target, got, want)
	}
	if !unchanged() {
		t.Fatalf("Leaves(%q, %.90q) changes what it is handed", dir, target)
	}
	return want
}

// lists are all lists of so many of the texts.
func lists(texts []string, n int) [][]string {
	all := [][]string{nil}
	for range n {
		var longer [][]string
		for _, list := range all {
			for _, text := range texts {
				longer = append(longer, append(slices.Clone(list), text))
			}
		}
		all = longer
	}
	return all
}

// upTo are all lists of at most so many of the texts.
func upTo(texts []string, n int) [][]string {
	var all [][]string
	for i := range n + 1 {
		all = append(all, lists(texts, i)...)
	}
	return all
}

// times is a list of one text, so many times.
func times(text string, n int) []string {
	return slices.Repeat([]string{text}, n)
}

// some is one of the texts by chance.
func some(r *rand.Rand, texts []string) string {
	return texts[r.Intn(len(texts))]
}
