package sat

import (
	"math"
	"math/big"
	"testing"
)

// edges are numbers at which a sum, a product or a quotient changes its size or its sign.
func edges() []int {
	list := []int{math.MinInt, math.MinInt + 1, math.MinInt + 2, math.MaxInt - 2, math.MaxInt - 1, math.MaxInt}
	for n := -12; n <= 12; n++ {
		list = append(list, n)
	}
	for _, shift := range []int{15, 20, 30, 31, 32, 33, 40, 61, 62} {
		for off := -1; off <= 1; off++ {
			list = append(list, 1<<shift+off, -(1<<shift)+off)
		}
	}
	return append(list, 3037000499, 3037000500, 1000000, 86400000, 1000003, math.MaxInt/3, math.MaxInt/3+1, math.MinInt/3)
}

func exact(n int) *big.Int { return big.NewInt(int64(n)) }

// limited is the exact number, or the limit of int that it is beyond.
func limited(n *big.Int) int {
	switch {
	case n.IsInt64():
		return int(n.Int64())
	case n.Sign() < 0:
		return math.MinInt
	}
	return math.MaxInt
}

func same(t *testing.T, what string, got, want int, args ...int) {
	t.Helper()
	if got != want {
		t.Errorf("%s%v is %d, want %d", what, args, got, want)
	}
}

// P1.1

func TestAddSubMulExamples(t *testing.T) {
	same(t, "Add", Add(-1<<63, -1), -1<<63)
	same(t, "Add", Add(1<<63-1, 1), 1<<63-1)
	same(t, "Add", Add(-1<<63, 1<<63-1), -1)
	same(t, "Sub", Sub(3, 5), -2)
	same(t, "Sub", Sub(0, -1<<63), 1<<63-1)
	same(t, "Sub", Sub(-1, -1<<63), 1<<63-1)
	same(t, "Sub", Sub(-1<<63, -1<<63), 0)
	same(t, "Sub", Sub(-1<<63, 1), -1<<63)
	same(t, "Mul", Mul(1<<40, 1<<40), 1<<63-1)
	same(t, "Mul", Mul(1<<40, -1<<40), -1<<63)
	same(t, "Mul", Mul(-1<<63, -1), 1<<63-1)
	same(t, "Mul", Mul(-1<<63, 1), -1<<63)
	same(t, "Mul", Mul(1<<32, -1<<31), -1<<63)
	same(t, "Mul", Mul(-7, 6), -42)
	same(t, "Mul", Mul(-1<<63, 0), 0)
}

func TestAddSubMulAreLimitedExactNumbers(t *testing.T) {
	for _, a := range edges() {
		for _, b := range edges() {
			same(t, "Add", Add(a, b), limited(new(big.Int).Add(exact(a), exact(b))), a, b)
			same(t, "Sub", Sub(a, b), limited(new(big.Int).Sub(exact(a), exact(b))), a, b)
			same(t, "Mul", Mul(a, b), limited(new(big.Int).Mul(exact(a), exact(b))), a, b)
		}
	}
}

// P1.2

func TestMuldivExamples(t *testing.T) {
	same(t, "Muldiv", Muldiv(10, 10, 3), 33)
	same(t, "Muldiv", Muldiv(1<<62, 6, 8), 3<<60)
	same(t, "Muldiv", Muldiv(-3, 5, 1), 0)
	same(t, "Muldiv", Muldiv(3, -5, 1), 0)
	same(t, "Muldiv", Muldiv(-3, -5, 1), 0)
	same(t, "Muldiv", Muldiv(-1<<63, -1<<63, 1), 0)
	same(t, "Muldiv", Muldiv(1<<62, 4, 1), 1<<63-1)
	same(t, "Muldiv", Muldiv(1<<62, 2, 1), 1<<63-1)
	same(t, "Muldiv", Muldiv(7, 6, 0), 42)
	same(t, "Muldiv", Muldiv(7, 6, -5), 42)
	same(t, "Muldiv", Muldiv(7, 6, -1<<63), 42)
	same(t, "Muldiv", Muldiv(1<<63-1, 1<<63-1, 1<<63-1), 1<<63-1)
	same(t, "Muldiv", Muldiv(1<<63-1, 1<<63-2, 1<<63-1), 1<<63-2)
	same(t, "Muldiv", Muldiv(1<<63-2, 1<<63-2, 1<<63-1), 1<<63-3)
	same(t, "Muldiv", Muldiv(1, 1<<63-2, 1<<63-1), 0)
}

func TestMuldivIsLimitedExactQuotient(t *testing.T) {
	for _, a := range edges() {
		for _, b := range edges() {
			product := new(big.Int).Mul(exact(max(a, 0)), exact(max(b, 0)))
			for _, c := range edges() {
				same(t, "Muldiv", Muldiv(a, b, c), limited(new(big.Int).Div(product, exact(max(c, 1)))), a, b, c)
			}
		}
	}
}

// P1.3

func TestClamp(t *testing.T) {
	same(t, "Clamp", Clamp(9, 1, 5), 5)
	same(t, "Clamp", Clamp(3, 7, 5), 7)
	same(t, "Clamp", Clamp(3, 1, 5), 3)
	same(t, "Clamp", Clamp(0, 1, 5), 1)
	same(t, "Clamp", Clamp(1, 1, 5), 1)
	same(t, "Clamp", Clamp(5, 1, 5), 5)
	same(t, "Clamp", Clamp(9, 7, 5), 7)
	same(t, "Clamp", Clamp(6, 7, 5), 7)
	same(t, "Clamp", Clamp(-1<<63, -1<<63, 1<<63-1), -1<<63)
	same(t, "Clamp", Clamp(1<<63-1, 1<<63-1, -1<<63), 1<<63-1)
}

func TestClampIsLesserOfTwoUnlessBelowTheLeast(t *testing.T) {
	for _, n := range edges() {
		for _, lo := range edges() {
			for _, hi := range edges() {
				want := n
				if hi < want {
					want = hi
				}
				if want < lo {
					want = lo
				}
				same(t, "Clamp", Clamp(n, lo, hi), want, n, lo, hi)
			}
		}
	}
}

// P1.4

func TestGcdExamples(t *testing.T) {
	same(t, "Gcd", Gcd(0, 7), 7)
	same(t, "Gcd", Gcd(7, 0), 7)
	same(t, "Gcd", Gcd(0, 0), 0)
	same(t, "Gcd", Gcd(12, 18), 6)
	same(t, "Gcd", Gcd(-12, 18), 18)
	same(t, "Gcd", Gcd(12, -18), 12)
	same(t, "Gcd", Gcd(-12, -18), 0)
	same(t, "Gcd", Gcd(-12, 0), 0)
	same(t, "Gcd", Gcd(-1<<63, 5), 5)
	same(t, "Gcd", Gcd(1<<63-1, 1<<63-1), 1<<63-1)
	same(t, "Gcd", Gcd(1<<62, 1<<40), 1<<40)
	same(t, "Gcd", Gcd(10, 1000), 10)
}

func TestGcdIsGreatestCommonDivisor(t *testing.T) {
	for a := 1; a <= 60; a++ {
		for b := 1; b <= 60; b++ {
			want := 1
			for n := 2; n <= a; n++ {
				if a%n == 0 && b%n == 0 {
					want = n
				}
			}
			same(t, "Gcd", Gcd(a, b), want, a, b)
		}
	}
	for _, a := range edges() {
		for _, b := range edges() {
			want := new(big.Int).GCD(nil, nil, exact(max(a, 0)), exact(max(b, 0)))
			same(t, "Gcd", Gcd(a, b), limited(want), a, b)
		}
	}
}

// P1.5

func TestMuldivNeverGoesTheWrongWay(t *testing.T) {
	for _, a := range edges() {
		for _, b := range edges() {
			for _, c := range edges() {
				here := Muldiv(a, b, c)
				if a < math.MaxInt && Muldiv(a+1, b, c) < here {
					t.Errorf("Muldiv decreases from a=%d on, b=%d, c=%d", a, b, c)
				}
				if b < math.MaxInt && Muldiv(a, b+1, c) < here {
					t.Errorf("Muldiv decreases from b=%d on, a=%d, c=%d", b, a, c)
				}
				if c < math.MaxInt && Muldiv(a, b, c+1) > here {
					t.Errorf("Muldiv increases from c=%d on, a=%d, b=%d", c, a, b)
				}
			}
		}
	}
}

func TestAddIsPlusWhereItDoesNotSaturate(t *testing.T) {
	for _, a := range edges() {
		for _, b := range edges() {
			if new(big.Int).Add(exact(a), exact(b)).IsInt64() {
				same(t, "Add", Add(a, b), a+b, a, b)
			}
		}
	}
}
