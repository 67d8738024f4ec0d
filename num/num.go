// Package num is layer 1, whole numbers: roots, products, bytes, check sums, draws. See shared/doc/01-num.md.
package num

import (
	"math"
	"math/bits"

	"lodestar/api"
)

// Isqrt answers the greatest r with r*r at most n; 0 of n below 1.
func Isqrt(n int) int {
	if n < 1 {
		return 0
	}
	// From a power of two above the root Newton's steps only fall, till they stand at the root.
	r := 1 << ((bits.Len(uint(n)) + 1) / 2)
	for next := (r + n/r) / 2; next < r; next = (r + n/r) / 2 {
		r = next
	}
	return r
}

// Mul answers the product; ErrOver, if it leaves an int.
func Mul(a, b int) (int, api.Errno) {
	if wrapsNegated(a, b) {
		return 0, api.ErrOver
	}
	p := a * b
	if b != 0 && p/b != a {
		return 0, api.ErrOver
	}
	return p, api.OK
}

// Div answers the quotient downwards; ErrArg, if b is 0; ErrOver, if the quotient leaves an int.
func Div(a, b int) (int, api.Errno) {
	if b == 0 {
		return 0, api.ErrArg
	}
	if wrapsNegated(a, b) {
		return 0, api.ErrOver
	}
	q := a / b
	// The language cuts towards 0: that is one too high where the true quotient is negative and not whole.
	if a%b != 0 && (a < 0) != (b < 0) {
		q--
	}
	return q, api.OK
}

// wrapsNegated tells the one pair whose product and quotient wrap round to a again: dividing back would not notice it.
func wrapsNegated(a, b int) bool {
	return a == math.MinInt && b == -1
}
