package varint

import (
	"encoding/binary"
	"math"
	"math/big"
	"math/rand"
	"strings"
	"testing"

	"stoplog/api"
)

// full is nine bytes 255, after which a tenth one has room for one bit.
const full = "\xff\xff\xff\xff\xff\xff\xff\xff\xff"

// gaps is nine bytes that each are the digit 0 with more to come.
const gaps = "\x80\x80\x80\x80\x80\x80\x80\x80\x80"

// numbers are at the edges of each length, and random of each length.
func numbers() []uint64 {
	list := []uint64{0, 1, 2, 3, 126, 127, 128, 129, 255, 256, 299, 300, 301, math.MaxInt64 - 1, math.MaxInt64, math.MaxInt64 + 1, math.MaxUint64 - 1, math.MaxUint64}
	for shift := range 64 {
		edge := uint64(1) << shift
		list = append(list, edge-1, edge, edge+1)
	}
	random := rand.New(rand.NewSource(1))
	for range 500 {
		list = append(list, random.Uint64()>>random.Intn(64))
	}
	return list
}

// exact is the number of s by unbounded integers, where s holds one encoding that is not too long, but may have no room.
func exact(s string) *big.Int {
	sum := new(big.Int)
	for i := len(s) - 1; i >= 0; i-- {
		sum.Lsh(sum, 7)
		sum.Add(sum, big.NewInt(int64(s[i]&0x7f)))
	}
	return sum
}

// expected is what Take should tell of s from at on, worked out from where the encoding's last byte is.
func expected(s string, at int) (uint64, int, api.Errno) {
	if at < 0 || at > len(s) {
		return 0, 0, api.ErrArg
	}
	rest := s[at:]
	last := 0
	for last < len(rest) && rest[last] >= 128 {
		last++
	}
	switch {
	case len(rest) > 9 && last >= 9 && rest[9] > 1:
		return 0, 0, api.ErrOver
	case last == len(rest):
		return 0, 0, api.ErrShort
	case last > 0 && rest[last] == 0:
		return 0, 0, api.ErrLong
	}
	return exact(rest[:last+1]).Uint64(), at + last + 1, api.OK
}

func checkPut(t *testing.T, n uint64, want string) {
	t.Helper()
	if got := Put(n); got != want {
		t.Errorf("Put(%d) is %q, want %q", n, got, want)
	}
}

func checkTake(t *testing.T, s string, at int, want uint64, next int, e api.Errno) {
	t.Helper()
	if n, after, err := Take(s, at); n != want || after != next || err != e {
		t.Errorf("Take(%q, %d) is %d, %d, %d, want %d, %d, %d", s, at, n, after, err, want, next, e)
	}
}

func checkNumber(t *testing.T, s string, at, most, want, next int, e api.Errno) {
	t.Helper()
	if n, after, err := Number(s, at, most); n != want || after != next || err != e {
		t.Errorf("Number(%q, %d, %d) is %d, %d, %d, want %d, %d, %d", s, at, most, n, after, err, want, next, e)
	}
}

// P4.1

func TestPutExamples(t *testing.T) {
	checkPut(t, 0, "\x00")
	checkPut(t, 1, "\x01")
	checkPut(t, 127, "\x7f")
	checkPut(t, 128, "\x80\x01")
	checkPut(t, 129, "\x81\x01")
	checkPut(t, 255, "\xff\x01")
	checkPut(t, 256, "\x80\x02")
	checkPut(t, 300, "\xac\x02")
	checkPut(t, 1<<14-1, "\xff\x7f")
	checkPut(t, 1<<14, "\x80\x80\x01")
	checkPut(t, 1<<63-1, "\xff\xff\xff\xff\xff\xff\xff\xff\x7f")
	checkPut(t, 1<<63, gaps+"\x01")
	checkPut(t, math.MaxUint64, full+"\x01")
}

func TestPutIsTheDigitsToTheBase128(t *testing.T) {
	for _, n := range numbers() {
		var digits []byte
		for rest := n; rest > 0 || len(digits) == 0; rest /= 128 {
			digits = append(digits, byte(rest%128)+128)
		}
		digits[len(digits)-1] -= 128
		checkPut(t, n, string(digits))
		checkPut(t, n, string(binary.AppendUvarint(nil, n)))
	}
}

// P4.2

func TestTakeOfNumbers(t *testing.T) {
	checkTake(t, "\x00", 0, 0, 1, api.OK)
	checkTake(t, "\x7f", 0, 127, 1, api.OK)
	checkTake(t, "\x80\x01", 0, 128, 2, api.OK)
	checkTake(t, "\xac\x02", 0, 300, 2, api.OK)
	checkTake(t, "\xac\x02", 1, 2, 2, api.OK)
	checkTake(t, "\x80\x80\x01", 0, 1<<14, 3, api.OK)
	checkTake(t, "\xff\xff\xff\xff\xff\xff\xff\xff\x7f", 0, 1<<63-1, 9, api.OK)
	checkTake(t, full+"\x01", 0, math.MaxUint64, 10, api.OK)
	checkTake(t, gaps+"\x01", 0, 1<<63, 10, api.OK)
	checkTake(t, full+"\x01\xff\x00", 0, math.MaxUint64, 10, api.OK)
	checkTake(t, "\x00\x00", 0, 0, 1, api.OK)
	checkTake(t, "\x00\x00", 1, 0, 2, api.OK)
}

func TestTakeOutsideTheString(t *testing.T) {
	for _, s := range []string{"", "\x05", "\xff", "\xac\x02", full + "\x01"} {
		for _, at := range []int{-1, -2, -10, math.MinInt, math.MinInt + 1, len(s) + 1, len(s) + 2, len(s) + 10, math.MaxInt - 1, math.MaxInt} {
			checkTake(t, s, at, 0, 0, api.ErrArg)
		}
		checkTake(t, s, len(s), 0, 0, api.ErrShort)
	}
}

func TestTakeOfBytesThatEndTooEarly(t *testing.T) {
	checkTake(t, "", 0, 0, 0, api.ErrShort)
	checkTake(t, "\xff", 0, 0, 0, api.ErrShort)
	checkTake(t, "\x80", 0, 0, 0, api.ErrShort)
	checkTake(t, "\x05\x80", 1, 0, 0, api.ErrShort)
	for length := range 10 {
		checkTake(t, full[:length], 0, 0, 0, api.ErrShort)
		checkTake(t, gaps[:length], 0, 0, 0, api.ErrShort)
	}
}

func TestTakeOfATenthByte(t *testing.T) {
	for b := range 256 {
		for _, front := range []string{full, gaps} {
			for _, tail := range []string{"", "\x00", "\x01", "\xff"} {
				s := front + string([]byte{byte(b)}) + tail
				switch {
				case b == 0:
					checkTake(t, s, 0, 0, 0, api.ErrLong)
				case b == 1:
					checkTake(t, s, 0, exact(front+"\x01").Uint64(), 10, api.OK)
				default:
					checkTake(t, s, 0, 0, 0, api.ErrOver)
				}
			}
		}
	}
}

func TestTakeOfUnnecessaryZeros(t *testing.T) {
	checkTake(t, "\x80\x00", 0, 0, 0, api.ErrLong)
	checkTake(t, "\xff\x00", 0, 0, 0, api.ErrLong)
	checkTake(t, "\xac\x82\x00", 0, 0, 0, api.ErrLong)
	checkTake(t, "\x00\x80\x00", 1, 0, 0, api.ErrLong)
	for length := 1; length < 10; length++ {
		checkTake(t, full[:length]+"\x00", 0, 0, 0, api.ErrLong)
		checkTake(t, gaps[:length]+"\x00\x01", 0, 0, 0, api.ErrLong)
	}
}

// TestTakeOfStrings holds Take against all strings of bytes that matter, of up to eleven with nine of them fixed, at all offsets.
func TestTakeOfStrings(t *testing.T) {
	bytes := []string{"", "\x00", "\x01", "\x02", "\x7f", "\x80", "\x81", "\xff"}
	fronts := []string{"", full[:6], full[:7], full[:8], full, gaps[:6], gaps[:7], gaps[:8], gaps}
	for _, front := range fronts {
		for _, a := range bytes {
			for _, b := range bytes {
				for _, c := range bytes {
					s := front + a + b + c
					for at := -1; at <= len(s)+1; at++ {
						n, next, e := expected(s, at)
						checkTake(t, s, at, n, next, e)
					}
				}
			}
		}
	}
}

func TestTakeOfAllPairsOfBytes(t *testing.T) {
	for a := range 256 {
		for b := range 256 {
			s := string([]byte{byte(a), byte(b)})
			n, next, e := expected(s, 0)
			checkTake(t, s, 0, n, next, e)
		}
	}
}

// P4.3

func TestNumberExamples(t *testing.T) {
	checkNumber(t, "\xac\x02", 0, 300, 300, 2, api.OK)
	checkNumber(t, "\xac\x02", 0, 301, 300, 2, api.OK)
	checkNumber(t, "\xac\x02", 0, math.MaxInt, 300, 2, api.OK)
	checkNumber(t, "\xac\x02", 0, 299, 0, 0, api.ErrRange)
	checkNumber(t, "\xac\x02", 0, 0, 0, 0, api.ErrRange)
	checkNumber(t, "\xac\x02", 0, -1, 0, 0, api.ErrRange)
	checkNumber(t, "\xac\x02", 0, math.MinInt, 0, 0, api.ErrRange)
	checkNumber(t, "\xac\x02", 1, 2, 2, 2, api.OK)
	checkNumber(t, "\x00", 0, 0, 0, 1, api.OK)
	checkNumber(t, "\x00", 0, -1, 0, 1, api.OK)
	checkNumber(t, "\x00", 0, math.MinInt, 0, 1, api.OK)
	checkNumber(t, "\x01", 0, 0, 0, 0, api.ErrRange)
	checkNumber(t, "\x01", 0, -1, 0, 0, api.ErrRange)
	checkNumber(t, Put(1<<63-1), 0, math.MaxInt, math.MaxInt, 9, api.OK)
	checkNumber(t, Put(1<<63-1), 0, math.MaxInt-1, 0, 0, api.ErrRange)
	checkNumber(t, Put(1<<63), 0, math.MaxInt, 0, 0, api.ErrRange)
	checkNumber(t, Put(math.MaxUint64), 0, math.MaxInt, 0, 0, api.ErrRange)
	checkNumber(t, Put(math.MaxUint64), 0, -1, 0, 0, api.ErrRange)
}

func TestNumberHasTheErrorsOfTakeFirst(t *testing.T) {
	for _, most := range []int{math.MinInt, -1, 0, 1, 300, math.MaxInt} {
		checkNumber(t, "\x05", -1, most, 0, 0, api.ErrArg)
		checkNumber(t, "\x05", 2, most, 0, 0, api.ErrArg)
		checkNumber(t, "\x05", math.MinInt, most, 0, 0, api.ErrArg)
		checkNumber(t, "\x05", math.MaxInt, most, 0, 0, api.ErrArg)
		checkNumber(t, "\x05", 1, most, 0, 0, api.ErrShort)
		checkNumber(t, "\xff", 0, most, 0, 0, api.ErrShort)
		checkNumber(t, full+"\x02", 0, most, 0, 0, api.ErrOver)
		checkNumber(t, full+"\x80", 0, most, 0, 0, api.ErrOver)
		checkNumber(t, "\xff\x00", 0, most, 0, 0, api.ErrLong)
	}
}

func TestNumberIsTakeUpToTheMost(t *testing.T) {
	for _, n := range numbers() {
		s := "\x80" + Put(n) + "\xff"
		for _, most := range numbers() {
			if most > math.MaxInt {
				continue
			}
			if n > most {
				checkNumber(t, s, 1, int(most), 0, 0, api.ErrRange)
			} else {
				checkNumber(t, s, 1, int(most), int(n), len(s)-1, api.OK)
			}
		}
	}
}

// P4.4

func TestZigExamples(t *testing.T) {
	for n, want := range map[int64]uint64{
		0:                 0,
		-1:                1,
		1:                 2,
		-2:                3,
		2:                 4,
		-300:              599,
		300:               600,
		math.MaxInt64:     math.MaxUint64 - 1,
		math.MaxInt64 - 1: math.MaxUint64 - 3,
		math.MinInt64:     math.MaxUint64,
		math.MinInt64 + 1: math.MaxUint64 - 2,
	} {
		if got := Zig(n); got != want {
			t.Errorf("Zig(%d) is %d, want %d", n, got, want)
		}
		if got := Zag(want); got != n {
			t.Errorf("Zag(%d) is %d, want %d", want, got, n)
		}
	}
}

func TestZigIsTwiceTheNumberOrOneAboveTwiceTheOther(t *testing.T) {
	two, one := big.NewInt(2), big.NewInt(1)
	for _, u := range numbers() {
		n := int64(u)
		want := new(big.Int).Mul(two, big.NewInt(n))
		if n < 0 {
			want.Sub(big.NewInt(-1), big.NewInt(n))
			want.Mul(want, two).Add(want, one)
		}
		if got := Zig(n); got != want.Uint64() || !want.IsUint64() {
			t.Errorf("Zig(%d) is %d, want %s", n, got, want)
		}
	}
}

func TestZagAndZigAreInverse(t *testing.T) {
	for _, u := range numbers() {
		if got := Zig(Zag(u)); got != u {
			t.Errorf("Zig(Zag(%d)) is %d", u, got)
		}
		if got := Zag(Zig(int64(u))); got != int64(u) {
			t.Errorf("Zag(Zig(%d)) is %d", int64(u), got)
		}
	}
}

// P4.5

func TestTakeUndoesPut(t *testing.T) {
	for _, n := range numbers() {
		whole := Put(n)
		for at := range 12 {
			for _, front := range []string{"\x00", "\x80", "\xff"} {
				for _, tail := range []string{"", "\x00", "\x01", "\xff"} {
					checkTake(t, strings.Repeat(front, at)+whole+tail, at, n, at+len(whole), api.OK)
				}
			}
		}
	}
}

func TestNumbersHaveNoOtherEncoding(t *testing.T) {
	random := rand.New(rand.NewSource(2))
	for range 200000 {
		list := make([]byte, random.Intn(13))
		for i := range list {
			list[i] = byte(random.Intn(256))
			if random.Intn(3) > 0 { // else nearly all encodings would be short
				list[i] |= 128
			}
		}
		s, at := string(list), random.Intn(3)
		n, next, e := expected(s, at)
		checkTake(t, s, at, n, next, e)
		if n, next, e := Take(s, at); e == api.OK && Put(n) != s[at:next] {
			t.Errorf("Take(%q, %d) is %d, whose encoding is %q", s, at, n, Put(n))
		}
	}
}
