package octet

import (
	"encoding/binary"
	"encoding/hex"
	"math"
	"math/rand"
	"strings"
	"testing"
	"unsafe"
)

// numbers are at the edges of each size, with all bytes different, and random.
func numbers() []uint64 {
	list := []uint64{0, 1, 2, 127, 128, 254, 258, 0x0102030405060708, 0xf1e2d3c4b5a69788, 1 << 63, math.MaxInt64, math.MaxUint64 - 1, math.MaxUint64}
	for size := 1; size < 8; size++ {
		edge := uint64(1) << (8 * size)
		list = append(list, edge-1, edge, edge+1)
	}
	random := rand.New(rand.NewSource(1))
	for range 200 {
		list = append(list, random.Uint64()>>random.Intn(64))
	}
	return list
}

// ints are numbers that offsets and sizes can have, right and wrong, also such as overflow when added.
func ints() []int {
	list := []int{math.MinInt, math.MinInt + 1, -1 << 62, 1 << 62, math.MaxInt - 1, math.MaxInt}
	for n := -12; n <= 12; n++ {
		list = append(list, n)
	}
	return list
}

// allBytes is a string that holds each byte once.
func allBytes() string {
	var list []byte
	for b := range 256 {
		list = append(list, byte(b))
	}
	return string(list)
}

func checkPut(t *testing.T, n uint64, size int, want string) {
	t.Helper()
	if got := Put(n, size); got != want {
		t.Errorf("Put(%d, %d) is %q, want %q", n, size, got, want)
	}
}

func checkTake(t *testing.T, s string, at, size int, want uint64, right bool) {
	t.Helper()
	if got, ok := Take(s, at, size); got != want || ok != right {
		t.Errorf("Take(%q, %d, %d) is %d, %v, want %d, %v", s, at, size, got, ok, want, right)
	}
}

func checkCut(t *testing.T, s string, at, n int, want string, right bool) {
	t.Helper()
	if got, ok := Cut(s, at, n); got != want || ok != right {
		t.Errorf("Cut(%q, %d, %d) is %q, %v, want %q, %v", s, at, n, got, ok, want, right)
	}
}

func checkUnhex(t *testing.T, s, want string, right bool) {
	t.Helper()
	if got, ok := Unhex(s); got != want || ok != right {
		t.Errorf("Unhex(%q) is %q, %v, want %q, %v", s, got, ok, want, right)
	}
}

// P3.1

func TestPutExamples(t *testing.T) {
	checkPut(t, 258, 2, "\x01\x02")
	checkPut(t, 258, 1, "\x02")
	checkPut(t, 258, 3, "\x00\x01\x02")
	checkPut(t, 258, 0, "")
	checkPut(t, 5, -1, "")
	checkPut(t, 5, 1, "\x05")
	checkPut(t, 0, 4, "\x00\x00\x00\x00")
	checkPut(t, 0x0102030405060708, 8, "\x01\x02\x03\x04\x05\x06\x07\x08")
	checkPut(t, 0x0102030405060708, 5, "\x04\x05\x06\x07\x08")
	checkPut(t, math.MaxUint64, 8, "\xff\xff\xff\xff\xff\xff\xff\xff")
}

func TestPutIsTheLastBytesOfEight(t *testing.T) {
	for _, n := range numbers() {
		whole := string(binary.BigEndian.AppendUint64(nil, n))
		for _, size := range ints() {
			switch {
			case size < 0:
				checkPut(t, n, size, "")
			case size > 8:
				checkPut(t, n, size, whole)
			default:
				checkPut(t, n, size, whole[8-size:])
			}
		}
	}
}

// P3.2

func TestCutExamples(t *testing.T) {
	checkCut(t, "abc", 3, 0, "", true)
	checkCut(t, "abc", 0, 0, "", true)
	checkCut(t, "abc", 0, 3, "abc", true)
	checkCut(t, "abc", 1, 1, "b", true)
	checkCut(t, "abc", 1, 2, "bc", true)
	checkCut(t, "abc", 2, 1, "c", true)
	checkCut(t, "", 0, 0, "", true)
	checkCut(t, "\x00\xff\xc3", 1, 2, "\xff\xc3", true)
	checkCut(t, "abc", 0, 4, "", false)
	checkCut(t, "abc", 3, 1, "", false)
	checkCut(t, "abc", 4, 0, "", false)
	checkCut(t, "abc", 4, -1, "", false)
	checkCut(t, "abc", -1, 1, "", false)
	checkCut(t, "abc", -1, 0, "", false)
	checkCut(t, "abc", 1, -1, "", false)
	checkCut(t, "abc", 3, -1, "", false)
	checkCut(t, "", 0, 1, "", false)
	checkCut(t, "", 1, 0, "", false)
	checkCut(t, "abc", 1, math.MaxInt, "", false)
	checkCut(t, "abc", math.MaxInt, 1, "", false)
	checkCut(t, "abc", math.MaxInt, math.MaxInt, "", false)
	checkCut(t, "abc", 1<<62, 1<<62, "", false)
	checkCut(t, "abc", math.MinInt, math.MinInt, "", false)
	checkCut(t, "abc", math.MinInt, math.MaxInt, "", false)
	checkCut(t, "abc", 0, math.MinInt, "", false)
}

func TestCutIsThePieceThatStandsThere(t *testing.T) {
	for length := range 11 {
		s := allBytes()[120 : 120+length]
		for _, at := range ints() {
			for _, n := range ints() {
				want, right := "", false
				for from := range length + 1 {
					for to := from; to <= length; to++ {
						if from == at && to-from == n {
							want, right = s[from:to], true
						}
					}
				}
				checkCut(t, s, at, n, want, right)
			}
		}
	}
}

func TestCutSharesNoMemoryWithItsArgument(t *testing.T) {
	s := strings.Repeat("stoplog", 10)
	for at := range len(s) {
		part, _ := Cut(s, at, 1)
		for i := range len(s) {
			if unsafe.StringData(part) == unsafe.StringData(s[i:]) {
				t.Errorf("Cut at %d shares the byte at %d", at, i)
			}
		}
	}
}

// P3.3

func TestTakeExamples(t *testing.T) {
	eight := strings.Repeat("\xff", 8)
	checkTake(t, eight, 0, 8, math.MaxUint64, true)
	checkTake(t, "ab", 0, 1, 97, true)
	checkTake(t, "ab", 1, 1, 98, true)
	checkTake(t, "ab", 0, 2, 97<<8|98, true)
	checkTake(t, "\x01\x02", 0, 2, 258, true)
	checkTake(t, "\x00\x00", 0, 2, 0, true)
	checkTake(t, "\x80\x00\x00\x00\x00\x00\x00\x00", 0, 8, 1<<63, true)
	checkTake(t, "ab", 1, 2, 0, false)
	checkTake(t, "ab", 0, 0, 0, false)
	checkTake(t, "ab", 2, 0, 0, false)
	checkTake(t, "ab", 2, 1, 0, false)
	checkTake(t, "ab", 3, 1, 0, false)
	checkTake(t, "ab", -1, 1, 0, false)
	checkTake(t, "ab", 0, -1, 0, false)
	checkTake(t, "", 0, 1, 0, false)
	checkTake(t, eight, 1, 8, 0, false)
	checkTake(t, eight+eight, 0, 9, 0, false)
	checkTake(t, eight+eight, 0, 16, 0, false)
	checkTake(t, eight, math.MaxInt, 8, 0, false)
	checkTake(t, eight, 0, math.MaxInt, 0, false)
	checkTake(t, eight, math.MinInt, math.MinInt, 0, false)
}

func TestTakeIsTheNumberThatStandsThere(t *testing.T) {
	s := "\x00\xf0\x01\x80\xff\x7f\x00\x10\xab\xcd\xef"
	for _, at := range ints() {
		for _, size := range ints() {
			part, right := Cut(s, at, size)
			right = right && 1 <= size && size <= 8
			want := uint64(0)
			if right {
				want = binary.BigEndian.Uint64([]byte(strings.Repeat("\x00", 8-size) + part))
			}
			checkTake(t, s, at, size, want, right)
		}
	}
}

// P3.4 (Hex)

func TestHex(t *testing.T) {
	for s, want := range map[string]string{
		"":             "",
		"\xaf":         "af",
		"\xfa":         "fa",
		"\x01\x02":     "0102",
		"\x00":         "00",
		"\x09\x90":     "0990",
		"abc":          "616263",
		"\xff\x00\x0f": "ff000f",
	} {
		if got := Hex(s); got != want {
			t.Errorf("Hex(%q) is %q, want %q", s, got, want)
		}
	}
	if got, want := Hex(allBytes()), hex.EncodeToString([]byte(allBytes())); got != want {
		t.Errorf("Hex of all bytes is %q, want %q", got, want)
	}
}

// P3.4 (Unhex)

func TestUnhexExamples(t *testing.T) {
	checkUnhex(t, "", "", true)
	checkUnhex(t, "af", "\xaf", true)
	checkUnhex(t, "0102", "\x01\x02", true)
	checkUnhex(t, "ff000f", "\xff\x00\x0f", true)
	checkUnhex(t, "abc", "", false)
	checkUnhex(t, "a", "", false)
	checkUnhex(t, "0", "", false)
	checkUnhex(t, "AF", "", false)
	checkUnhex(t, "aF", "", false)
	checkUnhex(t, "Af", "", false)
	checkUnhex(t, "0x", "", false)
	checkUnhex(t, "0x10", "", false)
	checkUnhex(t, " 10", "", false)
	checkUnhex(t, "10 1", "", false)
	checkUnhex(t, "6162g3", "", false)
	checkUnhex(t, "61626g", "", false)
	checkUnhex(t, "-1", "", false)
	checkUnhex(t, "é", "", false)
}

func TestUnhexTakesHexOfAByteAndNothingElse(t *testing.T) {
	known := map[string]string{}
	for b := range 256 {
		s := string([]byte{byte(b)})
		known[hex.EncodeToString([]byte(s))] = s
	}
	for a := range 256 {
		for b := range 256 {
			pair := string([]byte{byte(a), byte(b)})
			want, right := known[pair]
			checkUnhex(t, pair, want, right)
			if right {
				checkUnhex(t, "00"+pair+"ff", "\x00"+want+"\xff", true)
			} else {
				checkUnhex(t, "00"+pair+"ff", "", false)
			}
		}
	}
}

// P3.5

func TestTakeUndoesPut(t *testing.T) {
	for _, n := range numbers() {
		for size := 1; size <= 8; size++ {
			want := n
			if size < 8 {
				want = n % (1 << (8 * size))
			}
			for at := range 10 {
				for _, tail := range []string{"", "\x00", "\xff\xff\xff\xff\xff\xff\xff\xff"} {
					checkTake(t, strings.Repeat("\xa5", at)+Put(n, size)+tail, at, size, want, true)
				}
			}
		}
	}
}

func TestHexAndUnhexAreInverse(t *testing.T) {
	random := rand.New(rand.NewSource(2))
	for length := range 300 {
		list := make([]byte, length)
		random.Read(list)
		s := string(list)
		checkUnhex(t, Hex(s), s, true)

		for i := range list {
			list[i] = "0123456789abcdef"[random.Intn(16)]
		}
		s = string(list)
		back, ok := Unhex(s)
		if ok != (length%2 == 0) || ok && Hex(back) != s {
			t.Errorf("Hex(Unhex(%q)) is %q, %v", s, Hex(back), ok)
		}
	}
}
