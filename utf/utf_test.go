package utf

import (
	"math"
	"math/rand"
	"slices"
	"strings"
	"testing"
)

// most is the greatest number that has a sequence.
const most = 0x10ffff

// encodable tells of which numbers the chapter says that they have a sequence.
func encodable(n int) bool {
	return n >= 0 && n <= most && !(n >= 0xd800 && n <= 0xdfff)
}

// sequence is the encoding of n by the chapter's own words: a first byte, then six bits a byte.
func sequence(n int) string {
	switch {
	case n < 0x80:
		return string([]byte{byte(n)})
	case n < 0x800:
		return string([]byte{byte(0xc0 + n/64), byte(0x80 + n%64)})
	case n < 0x10000:
		return string([]byte{byte(0xe0 + n/4096), byte(0x80 + n/64%64), byte(0x80 + n%64)})
	}
	return string([]byte{byte(0xf0 + n/262144), byte(0x80 + n/4096%64), byte(0x80 + n/64%64), byte(0x80 + n%64)})
}

// decoded is the number and the width of the sequence in s at the offset at, or a width of 0.
// It reads the bits of each width and asks whether encoding them gives the same bytes.
func decoded(s string, at int) (int, int) {
	if at < 0 || at >= len(s) {
		return 0, 0
	}
	heads := []int{0, 0xc0, 0xe0, 0xf0}
	for i, head := range heads {
		width := i + 1
		if at+width > len(s) {
			break
		}
		n := int(s[at]) - head
		for _, b := range []byte(s[at+1 : at+width]) {
			n = n*64 + int(b) - 0x80
		}
		if encodable(n) && sequence(n) == s[at:at+width] {
			return n, width
		}
	}
	return 0, 0
}

// expected is the numbers of s, and the offset at which no sequence follows, or -1.
func expected(s string) ([]int, int) {
	var list []int
	for at := 0; at < len(s); {
		n, width := decoded(s, at)
		if width == 0 {
			return nil, at
		}
		list = append(list, n)
		at += width
	}
	return list, -1
}

// edges are the numbers next to each limit that the chapter names, and those that other programs like to confuse.
func edges() []int {
	return []int{0, 1, 9, 10, 'a', 0x7e, 0x7f, 0x80, 0x81, 0xbf, 0xc0, 0xe9, 0xff, 0x100, 0x7fe, 0x7ff, 0x800, 0x801, 0xfff, 0x1000, 0x20ac,
		0xcfff, 0xd000, 0xd7fe, 0xd7ff, 0xe000, 0xe001, 0xfdd0, 0xfeff, 0xfffc, 0xfffd, 0xfffe, 0xffff, 0x10000, 0x10001, 0x1f600, 0x3ffff, 0x40000,
		0xfffff, 0x100000, 0x10fffe, most}
}

// unencodable are numbers without a sequence; some of them would be fine if only their lower bits were looked at.
func unencodable() []int {
	return []int{-1, -2, -0x80, math.MinInt, math.MinInt + 1, math.MinInt32, math.MinInt32 - 1, math.MinInt + 'a',
		0xd800, 0xd801, 0xdbff, 0xdc00, 0xdffe, 0xdfff, most + 1, most + 2, 0x1fffff, 0x200000, math.MaxInt32, math.MaxInt32 + 1,
		1 << 32, 1<<32 + 'a', 1<<32 + 0x20ac, 1<<33 + 0xe9, 1<<63 - 1, math.MaxInt}
}

// bytesThatMatter are at the limits of what may stand at the first place or at another one.
func bytesThatMatter() []byte {
	return []byte{0, 'a', 0x7f, 0x80, 0x81, 0x8f, 0x90, 0x9f, 0xa0, 0xbe, 0xbf, 0xc0, 0xc1, 0xc2, 0xdf, 0xe0, 0xed, 0xef, 0xf0, 0xf4, 0xf5, 0xff}
}

// wrongs are strings that begin with no sequence.
func wrongs() []string {
	return []string{
		"\x80", "\xbf", "\xa9", // bytes that only continue
		"\xc3", "\xc3a", "\xc3\xc3", "\xdf\x7f", "\xdf\xc0", // two bytes, without a second one
		"\xe2", "\xe2\x82", "\xe2\x82a", "\xe2\x82\xe2", "\xe2a\xac", "\xe2\x82\xc0", // three bytes
		"\xf0", "\xf0\x90", "\xf0\x90\x80", "\xf0\x90\x80a", "\xf0\x90a\x80", "\xf0a\x80\x80", "\xf4\x8f\xbf\xc0", // four bytes
		"\xc0\x80", "\xc1\xbf", "\xc0\xaf", "\xe0\x80\x80", "\xe0\x81\x81", "\xe0\x9f\xbf", "\xf0\x80\x80\x80", "\xf0\x82\x82\xac", "\xf0\x8f\xbf\xbf", // longer than necessary
		"\xed\xa0\x80", "\xed\xaf\xbf", "\xed\xb0\x80", "\xed\xbf\xbf", "\xed\xa0\xbd\xed\xb8\x80", // d800 to dfff
		"\xf4\x90\x80\x80", "\xf5\x80\x80\x80", "\xf7\xbf\xbf\xbf", // above 10ffff
		"\xf8\x88\x80\x80\x80", "\xfc\x84\x80\x80\x80\x80", "\xfe", "\xff", "\xfe\xff", "\xff\xfe", // first bytes that there are not
	}
}

func checkWidth(t *testing.T, s string, at, want int) {
	t.Helper()
	if got := Width(s, at); got != want {
		t.Errorf("Width(%q, %d) is %d, want %d", s, at, got, want)
	}
}

func checkPut(t *testing.T, list []int, want string, ok bool) {
	t.Helper()
	if got, is := Put(list); got != want || is != ok {
		t.Errorf("Put(%x) is %q, %t, want %q, %t", list, got, is, want, ok)
	}
}

// checkString holds Bad, Runes and Count of s against what they should be.
func checkString(t *testing.T, s string, list []int, bad int) {
	t.Helper()
	if got := Bad(s); got != bad {
		t.Errorf("Bad(%q) is %d, want %d", s, got, bad)
	}
	count := len(list)
	if bad >= 0 {
		list, count = nil, -1
	}
	if got, is := Runes(s); !slices.Equal(got, list) || is != (bad < 0) {
		t.Errorf("Runes(%q) is %x, %t, want %x, %t", s, got, is, list, bad < 0)
	}
	if got := Count(s); got != count {
		t.Errorf("Count(%q) is %d, want %d", s, got, count)
	}
}

// randomNumbers is a list of encodable numbers of all widths.
func randomNumbers(random *rand.Rand) []int {
	list := make([]int, random.Intn(12))
	for i := range list {
		for {
			list[i] = random.Intn(most+1) >> random.Intn(21)
			if encodable(list[i]) {
				break
			}
		}
	}
	return list
}

// P5.1

func TestWidthExamples(t *testing.T) {
	checkWidth(t, "\xe2\x82\xac", 0, 3)
	checkWidth(t, "\xe2\x82\xac", 1, 0)
	checkWidth(t, "\xe2\x82\xac", 2, 0)
	checkWidth(t, "\xe2\x82\xac", 3, 0)
	checkWidth(t, "a", 0, 1)
	checkWidth(t, "\x00", 0, 1)
	checkWidth(t, "\xc3\xa9", 0, 2)
	checkWidth(t, "\xc3\xa9", 1, 0)
	checkWidth(t, "\xf4\x8f\xbf\xbf", 0, 4)
	checkWidth(t, "\xef\xbf\xbd", 0, 3)
	checkWidth(t, "\xff\xc3\xa9a\xe2", 0, 0)
	checkWidth(t, "\xff\xc3\xa9a\xe2", 1, 2)
	checkWidth(t, "\xff\xc3\xa9a\xe2", 2, 0)
	checkWidth(t, "\xff\xc3\xa9a\xe2", 3, 1)
	checkWidth(t, "\xff\xc3\xa9a\xe2", 4, 0)
}

func TestWidthOutsideTheString(t *testing.T) {
	for _, s := range []string{"", "a", "\x00", "\xc3\xa9", "\xe2\x82\xac", "\xff"} {
		for _, at := range []int{-1, -2, -3, math.MinInt, math.MinInt + 1, len(s), len(s) + 1, len(s) + 2, 1 << 31, 1 << 32, math.MaxInt - 1, math.MaxInt} {
			checkWidth(t, s, at, 0)
		}
	}
}

func TestWidthOfEachNumber(t *testing.T) {
	for n := range most + 1 {
		if !encodable(n) {
			checkWidth(t, sequence(n), 0, 0)
			continue
		}
		want := 1
		for _, limit := range []int{0x80, 0x800, 0x10000} {
			if n >= limit {
				want++
			}
		}
		checkWidth(t, sequence(n), 0, want)
	}
}

func TestWidthInTheMidst(t *testing.T) {
	for _, front := range []string{"", "a", "\xc3\xa9", "\xff", "\xf0\x90"} {
		for _, tail := range []string{"", "a", "\x80", "\xff", "\xc3\xa9"} {
			for _, n := range edges() {
				s := sequence(n)
				checkWidth(t, front+s+tail, len(front), len(s))
				for i := 1; i < len(s); i++ {
					checkWidth(t, front+s+tail, len(front)+i, 0)
					checkWidth(t, front+s[:i], len(front), 0)
				}
			}
			for _, s := range wrongs() {
				_, want := decoded(front+s+tail, len(front))
				checkWidth(t, front+s+tail, len(front), want)
			}
		}
	}
}

func TestWidthOfWrongBytes(t *testing.T) {
	for _, s := range wrongs() {
		checkWidth(t, s, 0, 0)
	}
}

// TestWidthOfStrings tries all first bytes, with up to three others that matter.
func TestWidthOfStrings(t *testing.T) {
	for a := range 256 {
		s := []byte{byte(a)}
		_, want := decoded(string(s), 0)
		checkWidth(t, string(s), 0, want)
		for _, b := range bytesThatMatter() {
			for _, c := range bytesThatMatter() {
				s := string([]byte{byte(a), b, c})
				_, want := decoded(s, 0)
				checkWidth(t, s, 0, want)
				for _, d := range bytesThatMatter() {
					s := string([]byte{byte(a), b, c, d})
					_, want := decoded(s, 0)
					checkWidth(t, s, 0, want)
				}
			}
		}
	}
}

// P5.2, P5.3 and P5.5

func TestExamples(t *testing.T) {
	checkString(t, "", nil, -1)
	checkString(t, "a", []int{'a'}, -1)
	checkString(t, "\x00", []int{0}, -1)
	checkString(t, "ab\xe2\x82", nil, 2)
	checkString(t, "ab\xe2\x82\xac", []int{'a', 'b', 0x20ac}, -1)
	checkString(t, "\xf4\x8f\xbf\xbf\xed\x9f\xbf", []int{0x10ffff, 0xd7ff}, -1)
	checkString(t, "\xc3\xa9", []int{0xe9}, -1)
	checkString(t, "\xef\xbf\xbd", []int{0xfffd}, -1)
	checkString(t, "\xef\xbf\xbd\xef\xbf", nil, 3)
	checkString(t, "\xef\xbb\xbfa", []int{0xfeff, 'a'}, -1)
	checkString(t, "e\xcc\x81", []int{'e', 0x301}, -1)
	checkString(t, "\xc0\x80", nil, 0)
	checkString(t, "\xed\xa0\x80", nil, 0)
	checkString(t, "\xff", nil, 0)
	checkString(t, "a\xff\xff", nil, 1)
	checkString(t, "\xc3\xa9\xa9", nil, 2)
	checkString(t, "\xe2\x82\xac\xe2\x82a", nil, 3)
}

func TestEachNumberAlone(t *testing.T) {
	for n := range most + 1 {
		if encodable(n) {
			checkString(t, sequence(n), []int{n}, -1)
		} else {
			checkString(t, sequence(n), nil, 0)
		}
	}
}

func TestWrongBytesBehindATextAndAheadOfOne(t *testing.T) {
	for _, n := range edges() {
		front := strings.Repeat(sequence(n), 3)
		for _, wrong := range wrongs() {
			checkString(t, wrong, nil, 0)
			checkString(t, front+wrong, nil, len(front))
			checkString(t, front+wrong+front, nil, len(front))
			checkString(t, front+wrong+wrong, nil, len(front))
		}
	}
}

func TestTextsCutOff(t *testing.T) {
	for _, n := range edges() {
		front, s := "a\xc3\xa9", sequence(n)
		for i := 1; i < len(s); i++ {
			checkString(t, front+s[:i], nil, len(front))
			checkString(t, s[i:]+front, nil, 0)
		}
	}
}

func TestAllPairsOfBytes(t *testing.T) {
	for a := range 256 {
		for b := range 256 {
			s := string([]byte{byte(a), byte(b)})
			list, bad := expected(s)
			checkString(t, s, list, bad)
		}
	}
}

func TestRandomStrings(t *testing.T) {
	random := rand.New(rand.NewSource(1))
	choice := bytesThatMatter()
	for range 100000 {
		s, _ := Put(randomNumbers(random))
		list := []byte(s)
		for range random.Intn(3) {
			if len(list) > 0 {
				list[random.Intn(len(list))] = choice[random.Intn(len(choice))]
			}
		}
		s = string(list)
		numbers, bad := expected(s)
		checkString(t, s, numbers, bad)
	}
}

func TestLongStrings(t *testing.T) {
	const times = 100000
	for _, n := range []int{'a', 0xe9, 0x20ac, most} {
		s := sequence(n)
		whole := strings.Repeat(s, times)
		checkString(t, whole, slices.Repeat([]int{n}, times), -1)
		if bad := Bad(whole + "\x80"); bad != len(whole) {
			t.Errorf("Bad behind %d times %q is %d", times, s, bad)
		}
	}
}

func TestRunesIsNewMemory(t *testing.T) {
	s := "a\xe2\x82\xac"
	first, _ := Runes(s)
	second, _ := Runes(s)
	first[0], first[1] = 1, 2
	_ = append(first, 3)
	if !slices.Equal(second, []int{'a', 0x20ac}) {
		t.Errorf("Runes(%q) changed with another answer: %x", s, second)
	}
}

// P5.4

func TestPutExamples(t *testing.T) {
	checkPut(t, nil, "", true)
	checkPut(t, []int{}, "", true)
	checkPut(t, []int{0x20ac}, "\xe2\x82\xac", true)
	checkPut(t, []int{0xdc00}, "", false)
	checkPut(t, []int{0}, "\x00", true)
	checkPut(t, []int{0x7f, 0x80}, "\x7f\xc2\x80", true)
	checkPut(t, []int{0x7ff, 0x800}, "\xdf\xbf\xe0\xa0\x80", true)
	checkPut(t, []int{0xffff, 0x10000}, "\xef\xbf\xbf\xf0\x90\x80\x80", true)
	checkPut(t, []int{0xd7ff, 0xe000}, "\xed\x9f\xbf\xee\x80\x80", true)
	checkPut(t, []int{0xfffd}, "\xef\xbf\xbd", true)
	checkPut(t, []int{0x10ffff}, "\xf4\x8f\xbf\xbf", true)
	checkPut(t, []int{0x110000}, "", false)
	checkPut(t, []int{-1}, "", false)
	checkPut(t, []int{0xe9, 'a', 0xe9}, "\xc3\xa9a\xc3\xa9", true)
}

func TestPutOfEachNumber(t *testing.T) {
	for n := -0x1000; n <= most+0x1000; n++ {
		if encodable(n) {
			checkPut(t, []int{n}, sequence(n), true)
		} else {
			checkPut(t, []int{n}, "", false)
		}
	}
}

func TestPutOfNumbersWithoutASequence(t *testing.T) {
	for _, n := range unencodable() {
		checkPut(t, []int{n}, "", false)
		checkPut(t, []int{n, 'a'}, "", false)
		checkPut(t, []int{'a', 0x20ac, n}, "", false)
		checkPut(t, []int{'a', n, 'b'}, "", false)
		checkPut(t, []int{n, n}, "", false)
	}
	checkPut(t, []int{0xd83d, 0xde00}, "", false)
}

func TestPutOfLists(t *testing.T) {
	random := rand.New(rand.NewSource(2))
	for range 10000 {
		list := randomNumbers(random)
		want := ""
		for _, n := range list {
			want += sequence(n)
		}
		checkPut(t, list, want, true)
	}
}

func TestPutLeavesItsArgument(t *testing.T) {
	whole := []int{'a', 0x20ac, 0xdc00, 7}
	for size := range len(whole) + 1 {
		Put(whole[:size])
		if !slices.Equal(whole, []int{'a', 0x20ac, 0xdc00, 7}) {
			t.Fatalf("Put of %d numbers changed its argument: %x", size, whole)
		}
	}
}

// P5.6

func TestRunesUndoesPut(t *testing.T) {
	random := rand.New(rand.NewSource(3))
	lists := [][]int{nil, edges()}
	for range 10000 {
		lists = append(lists, randomNumbers(random))
	}
	for _, list := range lists {
		s, ok := Put(list)
		if !ok {
			t.Errorf("Put(%x) is refused", list)
		}
		checkString(t, s, list, -1)
	}
}

// TestNoOtherTextHasTheSameNumbers holds each text against the one that its numbers give, and refuses other forms of the same number.
func TestNoOtherTextHasTheSameNumbers(t *testing.T) {
	for a := range 256 {
		for _, b := range bytesThatMatter() {
			for _, c := range bytesThatMatter() {
				for _, s := range []string{string([]byte{byte(a), b, c}), string([]byte{byte(a), b, c, 0xbf}), string([]byte{byte(a), b, c, 0x80})} {
					list, ok := Runes(s)
					if !ok {
						continue
					}
					checkPut(t, list, s, true)
				}
			}
		}
	}
	for _, same := range []string{"\xc1\xa1", "\xe0\x81\xa1", "\xf0\x80\x81\xa1"} { // the letter a, in more bytes than one
		checkString(t, same, nil, 0)
	}
}

func TestATextBehindATextIsAText(t *testing.T) {
	random := rand.New(rand.NewSource(4))
	for range 10000 {
		first, second := randomNumbers(random), randomNumbers(random)
		a, _ := Put(first)
		b, _ := Put(second)
		checkString(t, a+b, slices.Concat(first, second), -1)
	}
}
