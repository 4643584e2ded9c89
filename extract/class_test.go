package extract_test

import (
	"math"
	"slices"
	"testing"

	"satchel/api"
	"satchel/extract"
)

// modelClass is the chapter's table, by the numbers that api gives its names.
func modelClass(e api.Errno) api.Errno {
	rows := []struct {
		of    []api.Errno
		class api.Errno
	}{
		{[]api.Errno{0}, 0},
		{[]api.Errno{4, 2, 120, 121, 130, 131, 132, 140, 141, 142, 160, 161, 3, 192}, 200},
		{[]api.Errno{90, 91, 92, 93, 94, 95, 190, 107}, 201},
		{[]api.Errno{103, 110, 111, 112, 114, 104, 106, 191}, 202},
		{[]api.Errno{180, 181, 182}, 203},
		{[]api.Errno{193}, 204},
		{[]api.Errno{105}, 205},
	}
	for _, row := range rows {
		if slices.Contains(row.of, e) {
			return row.class
		}
	}
	return 206
}

// P20.1: every number that the document names, all those between and beside them, and the ends.
func TestClass(t *testing.T) {
	count := make(map[api.Errno]int)
	for e := api.Errno(-5000); e <= 5000; e++ {
		class := extract.Class(e)
		if class != modelClass(e) {
			t.Errorf("Class(%d): %d, not %d", e, class, modelClass(e))
		}
		count[class]++
	}
	for class, n := range map[api.Errno]int{0: 1, 200: 14, 201: 8, 202: 8, 203: 3, 204: 1, 205: 1, 206: 10001 - 36} {
		if count[class] != n {
			t.Errorf("%d is the class of %d numbers, not of %d", class, count[class], n)
		}
	}
	for _, e := range []api.Errno{math.MinInt, math.MaxInt, 1 << 32, 1<<32 + 4, -1 << 32, 1<<32 + 105} {
		if class := extract.Class(e); class != api.ErrRefused {
			t.Errorf("Class(%d): %d", e, class)
		}
	}
}

// P20.1: the names of the table, each under its class.
func TestClassNames(t *testing.T) {
	for class, names := range map[api.Errno][]api.Errno{
		api.OK: {api.OK},
		api.ErrFormat: {api.ErrShort, api.ErrLong, api.ErrDigit, api.ErrBig, api.ErrMagic, api.ErrSum, api.ErrType,
			api.ErrLength, api.ErrKey, api.ErrRecord, api.ErrAlone, api.ErrSparse, api.ErrForm, api.ErrBytes},
		api.ErrUnsafer: {api.ErrEmpty, api.ErrAbsolute, api.ErrDots, api.ErrZero, api.ErrName, api.ErrDeep, api.ErrUnsafe, api.ErrTarget},
		api.ErrBlocked: {api.ErrMissing, api.ErrNone, api.ErrInWay, api.ErrNotDir, api.ErrOutside, api.ErrThere, api.ErrKind, api.ErrLink},
		api.ErrLimits:  {api.ErrEntries, api.ErrDepth, api.ErrQuota},
		api.ErrUnknown: {api.ErrOdd},
		api.ErrNoRoom:  {api.ErrSpace},
		api.ErrRefused: {api.ErrArg, api.ErrMore, api.ErrNode, api.ErrDir, api.ErrComponent, api.ErrLoop, api.ErrFull, api.ErrHops, api.ErrFits, api.ErrWide,
			api.ErrFormat, api.ErrUnsafer, api.ErrBlocked, api.ErrLimits, api.ErrUnknown, api.ErrNoRoom, api.ErrRefused},
	} {
		for _, e := range names {
			if got := extract.Class(e); got != class {
				t.Errorf("Class(%d): %d, not %d", e, got, class)
			}
		}
	}
}
