// Package sat computes with integers that stay at the limits of int instead of overflowing.
package sat

import (
	"math"
	"math/bits"
)

// Add is the sum, held at the limits of int.
func Add(a, b int) int {
	switch {
	case b > 0 && a > math.MaxInt-b:
		return math.MaxInt
	case b < 0 && a < math.MinInt-b:
		return math.MinInt
	}
	return a + b
}

// Sub is the difference, held at the limits of int. It is not Add(a, -b), since the least int has no negative.
func Sub(a, b int) int {
	switch {
	case b < 0 && a > math.MaxInt+b:
		return math.MaxInt
	case b > 0 && a < math.MinInt+b:
		return math.MinInt
	}
	return a - b
}

// Mul is the product, held at the limits of int.
func Mul(a, b int) int {
	high, low := bits.Mul64(magnitude(a), magnitude(b))
	if (a < 0) != (b < 0) {
		if high > 0 || low > 1<<63 {
			return math.MinInt
		}
		return int(-low)
	}
	return held(high, low)
}

// Muldiv is a times b divided by c, rounded down, and held at the greatest int.
// The product has two words, so that only the quotient is held, not what is on the way to it.
func Muldiv(a, b, c int) int {
	high, low := bits.Mul64(natural(a), natural(b))
	by := uint64(max(c, 1))
	if high >= by { // the quotient has more than one word
		return math.MaxInt
	}
	return held(0, divide(high, low, by))
}

// Clamp is n held between lo and hi; where lo is above hi, it is lo.
func Clamp(n, lo, hi int) int {
	return max(min(n, hi), lo)
}

// Gcd is the greatest common divisor of a and b, of which a negative one counts as 0.
func Gcd(a, b int) int {
	a, b = max(a, 0), max(b, 0)
	for b != 0 {
		a, b = b, a%b
	}
	return a
}

// magnitude is n without its sign; the negation wraps round, so that it is right for the least int too.
func magnitude(n int) uint64 {
	if n < 0 {
		return -uint64(n)
	}
	return uint64(n)
}

// natural is n, of which a negative one counts as 0.
func natural(n int) uint64 {
	return uint64(max(n, 0))
}

// held is the number of two words as an int, or the greatest int if it is above that.
func held(high, low uint64) int {
	if high > 0 || low > math.MaxInt {
		return math.MaxInt
	}
	return int(low)
}

// divide divides the number of two words by c bit by bit; high is below c, and c at most the greatest int.
// The rest is always below c, thus below 2^63: it can be doubled within one word.
func divide(high, low, c uint64) uint64 {
	rest, quotient := high, uint64(0)
	for i := range 64 {
		rest = rest<<1 | low>>(63-i)&1
		quotient <<= 1
		if rest >= c {
			rest -= c
			quotient |= 1
		}
	}
	return quotient
}
