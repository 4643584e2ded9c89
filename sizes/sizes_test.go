package sizes_test

import (
	"math"
	"math/big"
	"testing"

	"satchel/api"
	"satchel/sizes"
)

// edges are numbers at which sums and products wrap, change their sign, or just fit.
func edges() []int64 {
	out := []int64{0, 1, 2, 3, 5, 7, 10, 511, 512, 513, 1024, 3037000499, 3037000500}
	for _, shift := range []int{31, 32, 33, 61, 62} {
		n := int64(1) << shift
		out = append(out, n-1, n, n+1)
	}
	out = append(out, api.MaxSize/3, api.MaxSize/2, api.MaxSize/2+1, api.MaxSize-512, api.MaxSize-1, api.MaxSize)
	return append(out, -1, -2, -512, math.MinInt64, math.MinInt64+1)
}

// fitting is what a call must answer whose whole number is n.
func fitting(n *big.Int) (int64, api.Errno) {
	if !n.IsInt64() {
		return 0, api.ErrOver
	}
	return n.Int64(), api.OK
}

// P1.1
func TestAddAndMulAreAsWholeNumbers(t *testing.T) {
	for _, a := range edges() {
		for _, b := range edges() {
			sum, sumWhy := fitting(new(big.Int).Add(big.NewInt(a), big.NewInt(b)))
			product, productWhy := fitting(new(big.Int).Mul(big.NewInt(a), big.NewInt(b)))
			if a < 0 || b < 0 {
				sum, sumWhy, product, productWhy = 0, api.ErrArg, 0, api.ErrArg
			}
			if n, why := sizes.Add(a, b); n != sum || why != sumWhy {
				t.Errorf("Add(%d, %d): %d, %d; want %d, %d", a, b, n, why, sum, sumWhy)
			}
			if n, why := sizes.Mul(a, b); n != product || why != productWhy {
				t.Errorf("Mul(%d, %d): %d, %d; want %d, %d", a, b, n, why, product, productWhy)
			}
		}
	}
}

// P1.1
func TestUpIsTheLeastMultiple(t *testing.T) {
	for _, n := range edges() {
		for _, unit := range edges() {
			want, wantWhy := int64(0), api.ErrArg
			if n >= 0 && unit >= 1 {
				u := big.NewInt(unit)
				whole := new(big.Int).Add(big.NewInt(n), new(big.Int).Sub(u, big.NewInt(1)))
				want, wantWhy = fitting(whole.Mul(whole.Div(whole, u), u))
			}
			if got, why := sizes.Up(n, unit); got != want || why != wantWhy {
				t.Errorf("Up(%d, %d): %d, %d; want %d, %d", n, unit, got, why, want, wantWhy)
			}
		}
	}
}

// P1.1, on numbers small enough to look at one by one.
func TestUpOfSmallNumbers(t *testing.T) {
	for n := int64(0); n < 40; n++ {
		for unit := int64(1); unit < 40; unit++ {
			want := int64(0)
			for want < n {
				want += unit
			}
			if got, why := sizes.Up(n, unit); got != want || why != api.OK {
				t.Errorf("Up(%d, %d): %d, %d; want %d", n, unit, got, why, want)
			}
		}
	}
}

// P1.1: the chapter's examples and edges, written out.
func TestSizesWrittenOut(t *testing.T) {
	for _, x := range []struct {
		name string
		call func(a, b int64) (int64, api.Errno)
		a, b int64
		want int64
		why  api.Errno
	}{
		{"Add", sizes.Add, api.MaxSize, 1, 0, api.ErrOver},
		{"Add", sizes.Add, api.MaxSize, 0, api.MaxSize, api.OK},
		{"Add", sizes.Add, 0, api.MaxSize, api.MaxSize, api.OK},
		{"Add", sizes.Add, api.MaxSize, api.MaxSize, 0, api.ErrOver},
		{"Add", sizes.Add, api.MaxSize, -1, 0, api.ErrArg},
		{"Add", sizes.Add, -1, api.MaxSize, 0, api.ErrArg},
		{"Mul", sizes.Mul, 1 << 32, 1 << 31, 0, api.ErrOver},
		{"Mul", sizes.Mul, 1 << 32, 1 << 32, 0, api.ErrOver},
		{"Mul", sizes.Mul, 1 << 31, 1 << 31, 1 << 62, api.OK},
		{"Mul", sizes.Mul, api.MaxSize, 0, 0, api.OK},
		{"Mul", sizes.Mul, 0, api.MaxSize, 0, api.OK},
		{"Mul", sizes.Mul, api.MaxSize, 1, api.MaxSize, api.OK},
		{"Mul", sizes.Mul, -1, 2, 0, api.ErrArg},
		{"Mul", sizes.Mul, 0, -1, 0, api.ErrArg},
		{"Up", sizes.Up, 513, 512, 1024, api.OK},
		{"Up", sizes.Up, 0, 512, 0, api.OK},
		{"Up", sizes.Up, api.MaxSize, 512, 0, api.ErrOver},
		{"Up", sizes.Up, api.MaxSize - 511, 512, api.MaxSize - 511, api.OK},
		{"Up", sizes.Up, api.MaxSize - 510, 512, 0, api.ErrOver},
		{"Up", sizes.Up, 1, api.MaxSize, api.MaxSize, api.OK},
		{"Up", sizes.Up, api.MaxSize, 1, api.MaxSize, api.OK},
		{"Up", sizes.Up, 1, 0, 0, api.ErrArg},
		{"Up", sizes.Up, 0, 0, 0, api.ErrArg},
		{"Up", sizes.Up, 1, -512, 0, api.ErrArg},
		{"Up", sizes.Up, -1, 512, 0, api.ErrArg},
	} {
		if got, why := x.call(x.a, x.b); got != x.want || why != x.why {
			t.Errorf("%s(%d, %d): %d, %d; want %d, %d", x.name, x.a, x.b, got, why, x.want, x.why)
		}
	}
}
