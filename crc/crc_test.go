package crc

import (
	"hash/crc32"
	"math"
	"math/rand"
	"strings"
	"testing"
)

// expected is the checksum of s by the chapter's own words: bit by bit.
func expected(s string) uint32 {
	register := uint32(0xffffffff)
	for _, b := range []byte(s) {
		register ^= uint32(b)
		for range 8 {
			out := register & 1
			register >>= 1
			if out == 1 {
				register ^= 0xedb88320
			}
		}
	}
	return ^register
}

// preimage is four bytes whose checksum is c. It runs the register backwards: a register with its highest bit set came from a shifted out 1, since edb88320 has that bit.
func preimage(c uint32) string {
	register := ^c
	for range 32 {
		if register>>31 == 1 {
			register = (register^0xedb88320)<<1 | 1
		} else {
			register <<= 1
		}
	}
	register = ^register // the register began with all bits set
	return string([]byte{byte(register), byte(register >> 8), byte(register >> 16), byte(register >> 24)})
}

// sums are checksums at the edges, those of a single bit, and random ones.
func sums() []uint32 {
	list := []uint32{0, 1, 7, 0xe8b7be43, 0xcbf43926, 0x7fffffff, 0xfffffffe, math.MaxUint32}
	for shift := range 32 {
		list = append(list, 1<<shift, ^uint32(1<<shift))
	}
	random := rand.New(rand.NewSource(1))
	for range 200 {
		list = append(list, random.Uint32())
	}
	return list
}

func randomString(random *rand.Rand, length int) string {
	list := make([]byte, length)
	random.Read(list)
	return string(list)
}

// exclusive is the exclusive or of strings of one length.
func exclusive(first string, others ...string) string {
	list := []byte(first)
	for _, s := range others {
		for i := range list {
			list[i] ^= s[i]
		}
	}
	return string(list)
}

func checkSum(t *testing.T, s string, want uint32) {
	t.Helper()
	if got := Sum(s); got != want {
		t.Errorf("Sum(%.40q) of %d bytes is %08x, want %08x", s, len(s), got, want)
	}
}

func checkMore(t *testing.T, c uint32, s string, want uint32) {
	t.Helper()
	if got := More(c, s); got != want {
		t.Errorf("More(%08x, %.40q) of %d bytes is %08x, want %08x", c, s, len(s), got, want)
	}
}

func checkJoin(t *testing.T, a uint32, s string, n int, want uint32) {
	t.Helper()
	if got := Join(a, s, n); got != want {
		t.Errorf("Join(%08x, %.40q, %d) is %08x, want %08x", a, s, n, got, want)
	}
}

// P6.1 (Sum)

func TestSumExamples(t *testing.T) {
	checkSum(t, "", 0)
	checkSum(t, "a", 0xe8b7be43)
	checkSum(t, "123456789", 0xcbf43926)
	checkSum(t, "\x00", 0xd202ef8d)
	checkSum(t, "\xff", 0xff000000)
	checkSum(t, "\x00\x00\x00\x00", 0x2144df1c)
	checkSum(t, "\xff\xff\xff\xff", 0xffffffff)
	checkSum(t, "abc", 0x352441c2)
	checkSum(t, "The quick brown fox jumps over the lazy dog", 0x414fa339)
	checkSum(t, strings.Repeat("\x00", 32), 0x190a55ad)
	checkSum(t, strings.Repeat("\xff", 32), 0xff6cab0b)
}

func TestSumOfShortStrings(t *testing.T) {
	for a := range 256 {
		one := string([]byte{byte(a)})
		checkSum(t, one, expected(one))
		for b := range 256 {
			two := string([]byte{byte(a), byte(b)})
			checkSum(t, two, expected(two))
		}
	}
}

// TestSumOfRandomStrings holds Sum against the chapter's words and against the library.
func TestSumOfRandomStrings(t *testing.T) {
	random := rand.New(rand.NewSource(2))
	for length := range 600 {
		s := randomString(random, length)
		checkSum(t, s, expected(s))
		checkSum(t, s, crc32.ChecksumIEEE([]byte(s)))
	}
}

func TestSumOfALongString(t *testing.T) {
	for _, s := range []string{"\x00", "\xff", "stoplog\n"} {
		long := strings.Repeat(s, 1<<20)
		checkSum(t, long, crc32.ChecksumIEEE([]byte(long)))
	}
}

// P6.1 (More)

func TestMoreExamples(t *testing.T) {
	checkMore(t, 0, "", 0)
	checkMore(t, 0, "a", 0xe8b7be43)
	checkMore(t, 7, "", 7)
	checkMore(t, math.MaxUint32, "", math.MaxUint32)
	checkMore(t, expected("a"), "bc", 0x352441c2)
	checkMore(t, expected("12345"), "6789", 0xcbf43926)
	checkMore(t, expected("\xff\xff\xff\xff"), "\x00", expected("\xff\xff\xff\xff\x00"))
}

func TestMoreOfEachSplit(t *testing.T) {
	random := rand.New(rand.NewSource(3))
	for length := range 40 {
		s := randomString(random, length)
		for at := range length + 1 {
			checkMore(t, expected(s[:at]), s[at:], expected(s))
		}
	}
}

// TestMoreOfEachSum shows with bytes that have the checksum that each number is one, and continues it.
func TestMoreOfEachSum(t *testing.T) {
	random := rand.New(rand.NewSource(4))
	for i, c := range sums() {
		front := preimage(c)
		checkSum(t, front, c)
		checkMore(t, c, "", c)
		s := randomString(random, i%20)
		checkMore(t, c, s, expected(front+s))
		checkMore(t, c, s, crc32.Update(c, crc32.IEEETable, []byte(s)))
	}
}

// P6.2

func TestJoinExamples(t *testing.T) {
	checkJoin(t, 0, "a", 1, 0xe8b7be43)
	checkJoin(t, 0, "a", 0, 0)
	checkJoin(t, 0, "a", -1, 0)
	checkJoin(t, 7, "", 5, 7)
	checkJoin(t, 7, "abc", -1, 7)
	checkJoin(t, 7, "abc", 0, 7)
	checkJoin(t, math.MaxUint32, "abc", math.MinInt, math.MaxUint32)
	checkJoin(t, 0, "123456789", 1, 0xcbf43926)
	checkJoin(t, expected("123"), "456789", 1, 0xcbf43926)
	checkJoin(t, 0, "\x00", 32, 0x190a55ad)
	checkJoin(t, 0, "\x00\x00", 16, 0x190a55ad)
}

func TestJoinOfEachNumber(t *testing.T) {
	numbers := []int{math.MinInt, math.MinInt + 1, math.MinInt32, -64, -65, 127, 128, 255, 256, 257, 1000, 1 << 31, 1<<32 + 1, 1 << 62, math.MaxInt - 1, math.MaxInt}
	for n := -3; n <= 70; n++ {
		numbers = append(numbers, n)
	}
	for _, front := range []string{"", "a", "\x00", "\xff\xff\xff\xff", "123456789"} {
		for _, s := range []string{"", "a", "ab", "\x00", "\xff", "\xff\xff\xff\xff", "stoplog"} {
			for _, n := range numbers {
				copies := max(min(n, 64), 0)
				checkJoin(t, expected(front), s, n, expected(front+strings.Repeat(s, copies)))
			}
		}
	}
}

func TestJoinOfEachSum(t *testing.T) {
	random := rand.New(rand.NewSource(5))
	for i, a := range sums() {
		s := randomString(random, i%7)
		n := random.Intn(66)
		checkJoin(t, a, s, n, expected(preimage(a)+strings.Repeat(s, min(n, 64))))
	}
}

// P6.3

// TestNoChangeWithinFourBytesIsMissed shows that the effects of the 32 bits of four bytes are linearly independent.
// As the checksum of an exclusive or is that of the checksums (see below), each change of some of these bits then has an effect.
func TestNoChangeWithinFourBytesIsMissed(t *testing.T) {
	for _, length := range []int{4, 5, 6, 7, 8, 9, 16, 33, 64} {
		zero := strings.Repeat("\x00", length)
		for at := range length - 3 {
			var basis [32]uint32 // at each place a number whose highest bit is that one
			for bit := range 32 {
				list := []byte(zero)
				list[at+bit/8] = 1 << (bit % 8)
				effect := Sum(string(list)) ^ Sum(zero)
				if !added(&basis, effect) {
					t.Fatalf("of %d bytes, four from %d on: the effect of bit %d is one of other bits", length, at, bit)
				}
			}
		}
	}
}

// added takes effect into the basis and tells whether it is independent of what was there.
func added(basis *[32]uint32, effect uint32) bool {
	for place := 31; place >= 0; place-- {
		switch {
		case effect>>place&1 == 0:
		case basis[place] == 0:
			basis[place] = effect
			return true
		default:
			effect ^= basis[place]
		}
	}
	return false
}

func TestChangesWithinFourBytesAreSeen(t *testing.T) {
	random := rand.New(rand.NewSource(6))
	for range 100000 {
		width := 1 + random.Intn(4)
		s := randomString(random, width+random.Intn(30))
		at := random.Intn(len(s) - width + 1)
		change := randomString(random, width)
		if random.Intn(2) == 0 {
			change = change[:width-1] + string([]byte{1 << random.Intn(8)})
		}
		other := s[:at] + exclusive(s[at:at+width], change) + s[at+width:]
		if (Sum(s) == Sum(other)) != (s == other) {
			t.Fatalf("Sum(%q) and Sum(%q) are both %08x", s, other, Sum(s))
		}
	}
}

func TestAllChangesOfTwoBytesAreSeen(t *testing.T) {
	seen := map[uint32]bool{}
	for n := range 1 << 16 {
		c := Sum(string([]byte{'a', byte(n), byte(n >> 8), 'z'}))
		if seen[c] {
			t.Fatalf("the checksum %08x is there twice", c)
		}
		seen[c] = true
	}
}

func TestSumOfExclusiveOr(t *testing.T) {
	random := rand.New(rand.NewSource(7))
	for length := range 200 {
		for range 20 {
			a, b, c := randomString(random, length), randomString(random, length), randomString(random, length)
			checkSum(t, exclusive(a, b, c), Sum(a)^Sum(b)^Sum(c))
			checkSum(t, exclusive(a, a, c), Sum(c))
		}
	}
}
