// Package num: exact integer arithmetic. See shared/doc/01-num.md.
package num

import (
	"math"

	"signalling/api"
)

// The root of MaxInt lies between 2^31 and 2^32, so no root has a higher binary digit than this one.
const highestPlace = 1 << 31

// Floor: the quotient, rounded down.
func Floor(a, b int) (int, api.Errno) {
	if b == 0 {
		return 0, api.ErrArg
	}
	if a == math.MinInt && b == -1 {
		return 0, api.ErrOverflow
	}
	quotient := a / b
	// Go rounds towards 0, which is up where the signs differ.
	if a%b != 0 && (a < 0) != (b < 0) {
		quotient--
	}
	return quotient, api.OK
}

// Ceil: the quotient, rounded up.
func Ceil(a, b int) (int, api.Errno) {
	quotient, e := Floor(a, b)
	if e == api.OK && a%b != 0 {
		quotient++
	}
	return quotient, e
}

// Root: the greatest r with r * r <= n, 0 for negative n.
func Root(n int) int {
	root, place := 0, highestPlace
digits:
	for {
		for !squareWithin(root+place, n) {
			if place == 1 {
				break digits
			}
			place /= 2
		}
		root += place
	}
	return root
}

// squareWithin tells whether r * r <= n, for a positive r. It divides because the square may not be an int.
func squareWithin(r, n int) bool {
	return r <= n/r
}

// Clamp: the greater of lo and the lesser of n and hi.
func Clamp(n, lo, hi int) int {
	return max(lo, min(n, hi))
}

// Sum: the sum, replaced by the nearest int.
func Sum(l []int) int {
	// The exact sum is always sum + wraps * 2^64: partial sums may leave the range and come back.
	sum, wraps := 0, 0
	for _, n := range l {
		next := sum + n
		switch {
		case n > 0 && next < sum:
			wraps++
		case n < 0 && next > sum:
			wraps--
		}
		sum = next
	}
	switch {
	case wraps > 0:
		return math.MaxInt
	case wraps < 0:
		return math.MinInt
	}
	return sum
}
