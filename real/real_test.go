package real

import (
	"math"
	"math/big"
	"math/rand"
	"slices"
	"testing"

	"stoplog/api"
)

// minus is -0; the constant -0.0 would be 0.
func minus() float64 { return math.Copysign(0, -1) }

// nones are NaNs of several bits: quiet and signalling, of both signs, with the least and the greatest payload.
func nones() []float64 {
	var list []float64
	for _, u := range []uint64{0x7ff8000000000000, 0x7ff8000000000001, 0x7ff0000000000001, 0x7ff7ffffffffffff, 0x7fffffffffffffff, 0xfff8000000000000, 0xfff0000000000001, 0xffffffffffffffff} {
		list = append(list, math.Float64frombits(u))
	}
	return list
}

// ascending are numbers in the order of P2.2, without NaN, each one once.
func ascending() []float64 {
	above := []float64{
		0, math.SmallestNonzeroFloat64, 2 * math.SmallestNonzeroFloat64,
		math.Float64frombits(0x000fffffffffffff), math.Float64frombits(0x0010000000000000), 1e-300,
		0.0005, 0.5, math.Nextafter(1, 0), 1, math.Nextafter(1, 2), 1.5, 1000, 1 << 53, 1<<53 + 2, 1e300, math.MaxFloat64, math.Inf(1),
	}
	var list []float64
	for _, x := range slices.Backward(above) {
		list = append(list, -x)
	}
	list[len(list)-1] = minus()
	return append(list, above...)
}

func same(t *testing.T, what string, got, want any) {
	t.Helper()
	if got != want {
		t.Errorf("%s is %v, want %v", what, got, want)
	}
}

// P2.1

func TestClass(t *testing.T) {
	zero := 0.0
	for _, x := range nones() {
		same(t, "the class of a NaN", Class(x), api.RealNone)
	}
	same(t, "the class of 0/0", Class(zero/zero), 0)
	same(t, "the class of -1/0", Class(-1/zero), 1)
	same(t, "the class of -infinity", Class(math.Inf(-1)), 1)
	same(t, "the class of -0", Class(-zero), 2)
	same(t, "the class of -1/infinity", Class(-1/math.Inf(1)), 2)
	same(t, "the class of 0", Class(0), 3)
	same(t, "the class of infinity", Class(math.Inf(1)), 5)
	for _, x := range ascending() {
		if x != 0 && x-x == 0 {
			same(t, "the class of a finite number", Class(x), 4)
		}
	}
}

// P2.2

func TestSameAndLessFollowTheOrder(t *testing.T) {
	list := append(ascending(), math.NaN())
	for i, a := range list {
		for j, b := range list {
			if Same(a, b) != (i == j) {
				t.Errorf("Same(%v, %v) is %v", a, b, Same(a, b))
			}
			if Less(a, b) != (i < j) {
				t.Errorf("Less(%v, %v) is %v", a, b, Less(a, b))
			}
		}
	}
}

func TestAllNaNsAreOneAndLast(t *testing.T) {
	for _, a := range nones() {
		for _, b := range nones() {
			same(t, "Same of two NaNs", Same(a, b), true)
			same(t, "Less of two NaNs", Less(a, b), false)
		}
		for _, x := range ascending() {
			same(t, "Same of a number and NaN", Same(x, a) || Same(a, x), false)
			same(t, "Less of a number and NaN", Less(x, a), true)
			same(t, "Less of NaN and a number", Less(a, x), false)
		}
	}
}

// P2.3 (Bits)

func TestBits(t *testing.T) {
	for _, x := range nones() {
		same(t, "Bits of a NaN", Bits(x), uint64(0x7ff8000000000000))
	}
	same(t, "Bits(1)", Bits(1), uint64(0x3ff0000000000000))
	same(t, "Bits(-2)", Bits(-2), uint64(0xc000000000000000))
	same(t, "Bits(0)", Bits(0), uint64(0))
	same(t, "Bits(-0)", Bits(minus()), uint64(1)<<63)
	same(t, "Bits(1.5)", Bits(1.5), uint64(0x3ff8000000000000))
	same(t, "Bits of infinity", Bits(math.Inf(1)), uint64(0x7ff0000000000000))
	same(t, "Bits of -infinity", Bits(math.Inf(-1)), uint64(0xfff0000000000000))
	same(t, "Bits of the least positive number", Bits(math.SmallestNonzeroFloat64), uint64(1))
	same(t, "Bits of the greatest number", Bits(math.MaxFloat64), uint64(0x7fefffffffffffff))
}

// P2.3 (From)

func TestFromRefusesBitsOfNoNumber(t *testing.T) {
	for _, u := range []uint64{0x7ff8000000000001, 0x7ff0000000000001, 0x7ff7ffffffffffff, 0x7fffffffffffffff, 0xfff8000000000000, 0xfff0000000000001, 0xffffffffffffffff} {
		x, ok := From(u)
		if ok || math.Float64bits(x) != 0 {
			t.Errorf("From(%x) is %v, %v, want 0, false", u, x, ok)
		}
	}
	x, ok := From(0x7ff8000000000000)
	if !ok || !math.IsNaN(x) {
		t.Errorf("From of the bits of NaN is %v, %v", x, ok)
	}
}

func TestFromUndoesBits(t *testing.T) {
	for _, x := range append(ascending(), math.NaN()) {
		y, ok := From(Bits(x))
		if !ok || !Same(x, y) {
			t.Errorf("From(Bits(%v)) is %v, %v", x, y, ok)
		}
	}
	random := rand.New(rand.NewSource(1))
	for range 100000 {
		u := random.Uint64()
		x, ok := From(u)
		if ok && Bits(x) != u || !ok && Bits(math.Float64frombits(u)) == u {
			t.Errorf("From(%x) is %v, %v", u, x, ok)
		}
	}
}

// P2.4

func TestMilliExamples(t *testing.T) {
	for _, c := range []struct {
		x float64
		n int
		e api.Errno
	}{
		{1000, 1000000, api.OK},
		{1000.001, 0, api.ErrOver},
		{-0.5, 0, api.ErrReal},
		{0.0005, 1, api.OK},
		{0.5, 500, api.OK},
		{0, 0, api.OK},
		{minus(), 0, api.OK},
		{1.5, 1500, api.OK},
		{999.9994, 999999, api.OK},
		{999.9996, 1000000, api.OK},
		{1000.0004, 1000000, api.OK},
		{1000.0006, 0, api.ErrOver},
		{1001, 0, api.ErrOver},
		{1023.5, 0, api.ErrOver},
		{1024, 0, api.ErrOver},
		{1 << 53, 0, api.ErrOver},
		{math.MaxFloat64, 0, api.ErrOver},
		{math.NaN(), 0, api.ErrReal},
		{math.Inf(1), 0, api.ErrReal},
		{math.Inf(-1), 0, api.ErrReal},
		{-math.SmallestNonzeroFloat64, 0, api.ErrReal},
		{-math.MaxFloat64, 0, api.ErrReal},
		{math.SmallestNonzeroFloat64, 0, api.OK},
		{0.0625, 62, api.OK},  // 62.5
		{0.1875, 188, api.OK}, // 187.5
		{0.3125, 312, api.OK}, // 312.5
		{math.Nextafter(0.0625, 1), 63, api.OK},
		{math.Nextafter(0.1875, 0), 187, api.OK},
	} {
		n, e := Milli(c.x)
		if n != c.n || e != c.e {
			t.Errorf("Milli(%v) is %d, %d, want %d, %d", c.x, n, e, c.n, c.e)
		}
	}
	for _, x := range nones() {
		n, e := Milli(x)
		if n != 0 || e != api.ErrReal {
			t.Errorf("Milli of a NaN is %d, %d", n, e)
		}
	}
}

// exactMilli is what P2.4 asks of a finite x that is not below 0, worked out in fractions.
func exactMilli(x float64) (int, api.Errno) {
	product := new(big.Rat).Mul(new(big.Rat).SetFloat64(x), big.NewRat(1000, 1))
	whole, rest := new(big.Int).QuoRem(product.Num(), product.Denom(), new(big.Int))
	half := rest.Lsh(rest, 1).Cmp(product.Denom())
	if half > 0 || half == 0 && whole.Bit(0) == 1 {
		whole.Add(whole, big.NewInt(1))
	}
	if whole.Cmp(big.NewInt(api.MaxMilli)) > 0 {
		return 0, api.ErrOver
	}
	return int(whole.Int64()), api.OK
}

func checkMilli(t *testing.T, x float64) {
	t.Helper()
	n, e := Milli(x)
	want, fault := exactMilli(x)
	if n != want || e != fault {
		t.Errorf("Milli(%v) is %d, %d, want %d, %d", x, n, e, want, fault)
	}
}

// around checks x and the numbers next to it.
func around(t *testing.T, x float64) {
	t.Helper()
	checkMilli(t, x)
	checkMilli(t, math.Nextafter(x, math.Inf(1)))
	if x > 0 {
		checkMilli(t, math.Nextafter(x, 0))
	}
}

func TestMilliRoundsTheExactProduct(t *testing.T) {
	for _, x := range ascending() {
		if x >= 0 && !math.IsInf(x, 0) {
			checkMilli(t, x)
		}
	}
	for n := range 16 * 1000 { // the products of these with 1000 are just between two integers where n is odd
		around(t, float64(n)/16)
	}
	for n := 0; n <= api.MaxMilli+2000; n += 97 { // the products of these are nearly between two integers
		around(t, (float64(n)+0.5)/1000)
	}
	for n := api.MaxMilli - 50; n <= api.MaxMilli+50; n++ {
		around(t, (float64(n)+0.5)/1000)
		around(t, float64(n)/1000)
	}
	for exponent := -1074; exponent <= 1023; exponent++ {
		around(t, math.Ldexp(1, exponent))
	}
}

func TestMilliOfRandomNumbers(t *testing.T) {
	random := rand.New(rand.NewSource(2))
	for range 50000 {
		checkMilli(t, random.Float64()*1002)
		checkMilli(t, random.Float64()/500)
		checkMilli(t, math.Float64frombits(random.Uint64()%0x7ff0000000000000))
	}
}

// P2.5

func TestThousandthExamples(t *testing.T) {
	for _, c := range []struct {
		n int
		x float64
	}{
		{-5, 0}, {-1, 0}, {math.MinInt, 0}, {0, 0}, {1, 0.001}, {500, 0.5}, {1500, 1.5}, {999999, 999.999},
		{1000000, 1000}, {1000001, 1000}, {1 << 40, 1000}, {math.MaxInt, 1000},
	} {
		if x := Thousandth(c.n); math.Float64bits(x) != math.Float64bits(c.x) {
			t.Errorf("Thousandth(%d) is %v, want %v", c.n, x, c.x)
		}
	}
}

func TestThousandthIsNearest(t *testing.T) {
	for n := 0; n <= api.MaxMilli; n++ {
		if n > 5000 && n < api.MaxMilli-5000 && n%13 != 0 {
			continue
		}
		want, _ := big.NewRat(int64(n), 1000).Float64()
		if x := Thousandth(n); x != want {
			t.Errorf("Thousandth(%d) is %v, want %v", n, x, want)
		}
	}
}

// P2.6

func TestMilliUndoesThousandth(t *testing.T) {
	for n := 0; n <= api.MaxMilli; n++ {
		got, e := Milli(Thousandth(n))
		if got != n || e != api.OK {
			t.Errorf("Milli(Thousandth(%d)) is %d, %d", n, got, e)
		}
	}
}

func TestMilliNeverDecreases(t *testing.T) {
	var list []float64
	random := rand.New(rand.NewSource(3))
	for range 20000 {
		list = append(list, random.Float64()*1000, random.Float64()/10)
	}
	for n := range 16 * 1000 {
		x := float64(n) / 16
		list = append(list, x, math.Nextafter(x, 2000), math.Nextafter(x, -1))
	}
	slices.Sort(list)
	last := 0
	for _, x := range list {
		if n, e := Milli(x); e == api.OK {
			if n < last {
				t.Errorf("Milli decreases to %d at %v, from %d", n, x, last)
			}
			last = n
		}
	}
}
