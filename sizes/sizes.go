// Package sizes is layer 1: sizes that do not wrap, budgets, sets of ranges: see DOC.md and doc/01-sizes.md.
package sizes

import "satchel/api"

// Add is the sum of two sizes.
func Add(a, b int64) (int64, api.Errno) {
	if !isSize(a) || !isSize(b) {
		return 0, api.ErrArg
	}
	// a + b itself could wrap.
	if a > api.MaxSize-b {
		return 0, api.ErrOver
	}
	return a + b, api.OK
}

// Mul is the product of two sizes.
func Mul(a, b int64) (int64, api.Errno) {
	if !isSize(a) || !isSize(b) {
		return 0, api.ErrArg
	}
	// a * b itself could wrap.
	if b > 0 && a > api.MaxSize/b {
		return 0, api.ErrOver
	}
	return a * b, api.OK
}

// Up is the least multiple of unit that is not below n.
func Up(n, unit int64) (int64, api.Errno) {
	if !isSize(n) || unit < 1 {
		return 0, api.ErrArg
	}
	over := n % unit
	if over == 0 {
		return n, api.OK
	}
	return Add(n, unit-over)
}

// isSize: no int64 is above MaxSize, so that only the sign tells.
func isSize(n int64) bool { return n >= 0 }
