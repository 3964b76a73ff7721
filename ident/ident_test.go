package ident

import (
	"fmt"
	"math/rand"
	"regexp"
	"slices"
	"sort"
	"strings"
	"testing"
	"time"
)

// What the functions must answer, by the chapter's own words.

var ids = regexp.MustCompile(`\A[a-z][a-z0-9_.-]{0,63}\z`)

// twiceOf holds each string against all ahead of it.
func twiceOf(l []string) int {
	for i := range l {
		for k := range i {
			if l[k] == l[i] {
				return i
			}
		}
	}
	return -1
}

func risingOf(l []string) int {
	for i := range l {
		if i >= 1 && strings.Compare(l[i], l[i-1]) != 1 {
			return i
		}
	}
	return -1
}

// findOf counts.
func findOf(l []string, s string) (int, bool) {
	less := 0
	for _, other := range l {
		if strings.Compare(other, s) == -1 {
			less++
		}
	}
	return less, less < len(l) && l[less] == s
}

// Checks of one call each.

func checkIs(t *testing.T, s string, want bool) {
	t.Helper()
	if got := Is(s); got != want {
		t.Fatalf("Is(%q) = %t, want %t", s, got, want)
	}
}

func checkTwice(t *testing.T, l []string, want int) {
	t.Helper()
	if got := Twice(l); got != want {
		t.Fatalf("Twice(%q) = %d, want %d", l, got, want)
	}
}

func checkRising(t *testing.T, l []string, want int) {
	t.Helper()
	if got := Rising(l); got != want {
		t.Fatalf("Rising(%q) = %d, want %d", l, got, want)
	}
}

func checkFind(t *testing.T, l []string, s string, want int, is bool) {
	t.Helper()
	if got, ok := Find(l, s); got != want || ok != is {
		t.Fatalf("Find(%q, %q) = %d, %t, want %d, %t", l, s, got, ok, want, is)
	}
}

// checkString holds Is against the oracle.
func checkString(t *testing.T, s string) {
	t.Helper()
	checkIs(t, s, ids.MatchString(s))
}

// checkList holds Twice and Rising against their oracles.
func checkList(t *testing.T, l []string) {
	t.Helper()
	checkTwice(t, l, twiceOf(l))
	checkRising(t, l, risingOf(l))
}

// checkPlaces holds Find of each string in l, which ascends, against the oracle.
func checkPlaces(t *testing.T, l, all []string) {
	t.Helper()
	for _, s := range all {
		want, is := findOf(l, s)
		checkFind(t, l, s, want, is)
	}
}

// What is tried.

// close are strings of which each is greater than the one ahead of it, though hardly so, or by its bytes alone.
var close = []string{
	"", "\x00", "\x00\x00", "\x01", "-", ".", "0", "10", "2", "9", "A", "Z", "_", "a", "a\x00", "a\x00\x00", "a\x00b", "a-", "a-1", "a.", "a.1", "a1",
	"aA", "aZ", "a_", "a_1", "aa", "aaa", "ab", "a\u00e4", "a\uff00", "a\U00010000", "a\xff", "b", "ba", "z", "zz", "\x7f", "\x80", "\xc2", "\u00e4",
	"\uff00", "\ufffd", "\U00010000", "\xfe", "\xff", "\xff\x00", "\xff\xff",
}

// listsOf are all lists of that many of the strings.
func listsOf(all []string, size int) [][]string {
	if size == 0 {
		return [][]string{nil}
	}
	var lists [][]string
	for _, l := range listsOf(all, size-1) {
		for _, s := range all {
			lists = append(lists, append(slices.Clone(l), s))
		}
	}
	return lists
}

// stringAtRandom is a string of the bytes, in memory of its own.
func stringAtRandom(r *rand.Rand, bytes string, size int) string {
	s := make([]byte, size)
	for i := range s {
		s[i] = bytes[r.Intn(len(bytes))]
	}
	return string(s)
}

// listAtRandom has strings of up to most of the bytes.
func listAtRandom(r *rand.Rand, bytes string, size, most int) []string {
	var l []string
	for range size {
		l = append(l, stringAtRandom(r, bytes, r.Intn(most+1)))
	}
	return l
}

// numbered are that many strings, all of the same length, each greater than the one ahead of it.
func numbered(count int) []string {
	l := make([]string, count)
	for i := range l {
		l[i] = fmt.Sprintf("r%08d", 2*i)
	}
	return l
}

const (
	letters = "abcdefghijklmnopqrstuvwxyz"
	right   = letters + "0123456789-_."
)

// P16.1

func TestIsExamples(t *testing.T) {
	for _, s := range []string{"a-1.b", "a", "z", "a1", "a-", "a_", "a.", "a0", "a9", "az", "zz", "a--__..", "a-b_c.d", "bucket.main-2", strings.Repeat("a", 64), "a" + strings.Repeat(".", 63)} {
		checkIs(t, s, true)
	}
	for _, s := range []string{"", "1a", "A", "aA", "-a", "_a", ".a", "1", "-", "_", ".", " ", " a", "a ", "a b", "a/b", "/a", "a\n", "\na", "a\x00", "\x00a", "a,b", "a:b", "a~", "a*", "a+b", "a\\", `"a"`, strings.Repeat("a", 65), "a" + strings.Repeat(".", 64)} {
		checkIs(t, s, false)
	}
}

func TestIsOfEachLength(t *testing.T) {
	for _, b := range right {
		for size := range 1200 {
			s := strings.Repeat(string(b), size)
			checkString(t, s)
			checkString(t, "a"+s)
			checkIs(t, "a"+s, size <= 63)
		}
	}
	for size := 65536; size < 65536+130; size++ {
		checkIs(t, strings.Repeat("a", size), false)
	}
	for _, size := range []int{1 << 24, 1<<24 + 1, 1<<24 + 64} {
		checkIs(t, strings.Repeat("a", size), false)
	}
}

func TestIsOfAllShortStrings(t *testing.T) {
	for a := range 256 {
		checkString(t, string([]byte{byte(a)}))
		for b := range 256 {
			checkString(t, string([]byte{byte(a), byte(b)}))
			checkString(t, string([]byte{'a', byte(a), byte(b)}))
		}
	}
}

func TestIsOfEachByteAtEachPlace(t *testing.T) {
	for size := 1; size <= 66; size++ {
		s := []byte(strings.Repeat("a", size))
		for at := range s {
			for b := range 256 {
				s[at] = byte(b)
				want := size <= 64 && (at == 0 && strings.Contains(letters, string(s[0:1])) || at > 0 && strings.IndexByte(right, byte(b)) >= 0)
				checkIs(t, string(s), want)
			}
			s[at] = 'a'
		}
	}
}

// TestIsOfLettersOfOtherKinds: what is a small letter or a digit elsewhere is none here.
func TestIsOfLettersOfOtherKinds(t *testing.T) {
	for n := rune(0x80); n <= 0x10ffff; n++ {
		s := string(n)
		if Is(s) || Is("a"+s) || Is("a"+s+"a") {
			t.Fatalf("Is takes %q", s)
		}
	}
}

func TestIsAtRandom(t *testing.T) {
	r := rand.New(rand.NewSource(1))
	for range 200000 {
		s := []byte(stringAtRandom(r, letters, 1) + stringAtRandom(r, right, r.Intn(67)))
		checkString(t, string(s))
		s[r.Intn(len(s))] = byte(r.Intn(256))
		checkString(t, string(s))
	}
}

// P16.2

func TestTwiceExamples(t *testing.T) {
	checkTwice(t, nil, -1)
	checkTwice(t, []string{}, -1)
	checkTwice(t, []string{""}, -1)
	checkTwice(t, []string{"a"}, -1)
	checkTwice(t, []string{"a", "b"}, -1)
	checkTwice(t, []string{"b", "a"}, -1)
	checkTwice(t, []string{"a", "A"}, -1)
	checkTwice(t, []string{"a", "a "}, -1)
	checkTwice(t, []string{"a", "a\x00"}, -1)
	checkTwice(t, []string{"a", ""}, -1)
	checkTwice(t, []string{"\xff", "\xfe", "\ufffd"}, -1)
	checkTwice(t, []string{"\u00e9", "e\u0301"}, -1)
	checkTwice(t, []string{"a", "b", "a"}, 2)
	checkTwice(t, []string{"a", "a"}, 1)
	checkTwice(t, []string{"", ""}, 1)
	checkTwice(t, []string{"", "a", ""}, 2)
	checkTwice(t, []string{"\xff", "\xff"}, 1)
	checkTwice(t, []string{"a", "b", "b", "a"}, 2)
	checkTwice(t, []string{"a", "b", "a", "b"}, 2)
	checkTwice(t, []string{"a", "a", "a"}, 1)
	checkTwice(t, []string{"1A", "c", "1A"}, 2)
}

// P16.3

func TestRisingExamples(t *testing.T) {
	checkRising(t, nil, -1)
	checkRising(t, []string{}, -1)
	checkRising(t, []string{"b"}, -1)
	checkRising(t, []string{""}, -1)
	checkRising(t, []string{"a", "b"}, -1)
	checkRising(t, []string{"", "a", "b", "c"}, -1)
	checkRising(t, []string{"Z", "a"}, -1)
	checkRising(t, []string{"a", "a\x00"}, -1)
	checkRising(t, []string{"a10", "a2"}, -1)
	checkRising(t, []string{"\uff00", "\U00010000"}, -1)
	checkRising(t, []string{"b", "a"}, 1)
	checkRising(t, []string{"a", "a"}, 1)
	checkRising(t, []string{"", ""}, 1)
	checkRising(t, []string{"a", ""}, 1)
	checkRising(t, []string{"a2", "a10"}, 1)
	checkRising(t, []string{"a", "Z"}, 1)
	checkRising(t, []string{"a", "b", "c", "b"}, 3)
	checkRising(t, []string{"a", "c", "b", "a"}, 2)
	checkRising(t, []string{"b", "c", "a", "d"}, 2)
	checkRising(t, []string{"\xff", "z"}, 1)
}

// P16.2 and P16.3 together

func TestAllShortLists(t *testing.T) {
	for size := range 8 {
		for _, l := range listsOf([]string{"", "a", "b", "aa"}, size) {
			checkList(t, l)
		}
	}
	for size := range 4 {
		for _, l := range listsOf(close, size) {
			checkList(t, l)
		}
	}
}

// TestOneStringAgain: at each two places, that at the second one in memory of its own.
func TestOneStringAgain(t *testing.T) {
	const count = 70
	for i := range count {
		for k := range i {
			l := numbered(count)
			l[i] = strings.Clone(l[k])
			checkTwice(t, l, i)
			checkRising(t, l, i)
		}
	}
}

// TestSeveralStringsAgain: the first one that is there already counts, not the one whose other place is first.
func TestSeveralStringsAgain(t *testing.T) {
	const count = 60
	for i := 2; i < count; i++ {
		for k := i + 1; k < count; k++ {
			l := numbered(count)
			l[i], l[k] = l[1], l[0]
			checkTwice(t, l, i)
			checkRising(t, l, i)
		}
	}
}

// TestLongStringsThatDifferInOneByte, at each place of them.
func TestLongStringsThatDifferInOneByte(t *testing.T) {
	const size = 300
	less := strings.Repeat("n", size)
	for at := range size {
		greater := less[:at] + "o" + less[at+1:]
		checkTwice(t, []string{less, greater}, -1)
		checkTwice(t, []string{less, greater, strings.Clone(less)}, 2)
		checkRising(t, []string{less, greater}, -1)
		checkRising(t, []string{greater, less}, 1)
		checkPlaces(t, []string{less, greater}, []string{less[:at], less, greater[:at+1], greater, greater + "n"})
	}
}

func TestListsAtRandom(t *testing.T) {
	r := rand.New(rand.NewSource(2))
	for range 20000 {
		checkList(t, listAtRandom(r, "ab", r.Intn(12), 5))
		checkList(t, listAtRandom(r, "a\x00\xff\u00e4", r.Intn(12), 3))
		l := listAtRandom(r, right, r.Intn(40), 3)
		checkList(t, l)
		sort.Strings(l)
		checkList(t, l)
		checkList(t, slices.Compact(l))
	}
}

// P16.4

func TestFindExamples(t *testing.T) {
	ab := []string{"a", "b"}
	checkFind(t, ab, "b", 1, true)
	checkFind(t, ab, "a", 0, true)
	checkFind(t, ab, "", 0, false)
	checkFind(t, ab, "A", 0, false)
	checkFind(t, ab, "a\x00", 1, false)
	checkFind(t, ab, "aa", 1, false)
	checkFind(t, ab, "b\x00", 2, false)
	checkFind(t, ab, "c", 2, false)
	checkFind(t, ab, "\xff", 2, false)
	checkFind(t, nil, "b", 0, false)
	checkFind(t, nil, "", 0, false)
	checkFind(t, []string{}, "a", 0, false)
	checkFind(t, []string{""}, "", 0, true)
	checkFind(t, []string{""}, "a", 1, false)
	checkFind(t, []string{"a"}, "", 0, false)
	checkFind(t, []string{"a10", "a2"}, "a2", 1, true)
	checkFind(t, []string{"a10", "a2"}, "a11", 1, false)
	checkFind(t, []string{"B", "a"}, "a", 1, true)
	checkFind(t, []string{"\uff00", "\U00010000"}, "\U00010000", 1, true)
}

// TestFindInEachPart: the least strings, and every list that leaves some of them out.
func TestFindInEachPart(t *testing.T) {
	all := close[:11]
	for chosen := range 1 << len(all) {
		var l []string
		for i, s := range all {
			if chosen>>i&1 == 1 {
				l = append(l, s)
			}
		}
		checkPlaces(t, l, all)
	}
}

// TestFindInAllThatAreClose, with each two of them left out, and others.
func TestFindInAllThatAreClose(t *testing.T) {
	l := slices.Clone(close)
	sort.Strings(l)
	checkRising(t, l, -1)
	for i := range l {
		for k := range i {
			part := slices.Delete(slices.Delete(slices.Clone(l), i, i+1), k, k+1)
			checkPlaces(t, part, l)
		}
	}
}

// TestFindInListsOfEachSize, at each place and between each two.
func TestFindInListsOfEachSize(t *testing.T) {
	whole := numbered(300)
	for size := range 300 {
		l := whole[:size]
		checkFind(t, l, "", 0, false)
		checkFind(t, l, "r", 0, false)
		for i, s := range l {
			checkFind(t, l, strings.Clone(s), i, true)
			checkFind(t, l, s+"\x00", i+1, false)
			checkFind(t, l, s[:len(s)-1], slices.IndexFunc(l, func(other string) bool { return other >= s[:len(s)-1] }), false)
		}
		checkFind(t, l, "s", size, false)
	}
}

func TestFindAtRandom(t *testing.T) {
	r := rand.New(rand.NewSource(3))
	for _, bytes := range []string{"ab", right, "a\x00\xff\u00e4"} {
		for range 3000 {
			l := listAtRandom(r, bytes, r.Intn(40), 5)
			sort.Strings(l)
			l = slices.Compact(l)
			checkPlaces(t, l, listAtRandom(r, bytes, 20, 6))
			checkPlaces(t, l, l)
		}
	}
}

// TestFindInOtherLists: it ends, does not change them, and answers the same each time.
func TestFindInOtherLists(t *testing.T) {
	r := rand.New(rand.NewSource(4))
	for range 3000 {
		l := listAtRandom(r, "ab", r.Intn(20), 3)
		before := slices.Clone(l)
		for _, s := range listAtRandom(r, "ab", 10, 3) {
			at, ok := Find(l, s)
			for range 5 {
				checkFind(t, before, s, at, ok)
			}
		}
		if !slices.Equal(l, before) {
			t.Fatalf("Find changes %q to %q", before, l)
		}
	}
}

// P16.5

func TestAscendingStringsContainNoneTwice(t *testing.T) {
	r := rand.New(rand.NewSource(5))
	ascending := 0
	for range 50000 {
		l := listAtRandom(r, "abc", r.Intn(6), 3)
		if r.Intn(2) == 0 {
			sort.Strings(l)
		}
		if Rising(l) != -1 {
			continue
		}
		ascending++
		checkTwice(t, l, -1)
	}
	if ascending < 10000 {
		t.Fatalf("only %d lists ascend", ascending)
	}
}

func TestWhatIsFoundIsAtItsIndex(t *testing.T) {
	r := rand.New(rand.NewSource(6))
	found := 0
	for range 20000 {
		l := listAtRandom(r, "abc", r.Intn(10), 3)
		sort.Strings(l)
		l = slices.Compact(l)
		for _, s := range listAtRandom(r, "abc", 5, 3) {
			at, ok := Find(l, s)
			if ok && l[at] != s || ok != slices.Contains(l, s) {
				t.Fatalf("Find(%q, %q) = %d, %t", l, s, at, ok)
			}
			if ok {
				found++
			}
		}
	}
	if found < 10000 {
		t.Fatalf("only %d strings are found", found)
	}
}

// R3: lists are left as they are, with what is behind their ends, which counts for nothing.

func TestListsAreLeft(t *testing.T) {
	r := rand.New(rand.NewSource(7))
	for range 5000 {
		all := append(listAtRandom(r, "ab", r.Intn(12), 3), "a", "", "b")
		before := slices.Clone(all)
		l := all[:len(all)-3]
		checkList(t, l)
		sorted := sort.StringsAreSorted(l)
		for _, s := range before {
			Find(l, s)
			if sorted && Rising(l) == -1 {
				checkPlaces(t, l, []string{s})
			}
		}
		if !slices.Equal(all, before) {
			t.Fatalf("%q was changed to %q", before, all)
		}
	}
}

// R1 and the bound: great arguments

// checkEnds fails if the calls take far longer than they need.
func checkEnds(t *testing.T, calls func()) {
	t.Helper()
	start := time.Now()
	calls()
	if took := time.Since(start); took > 20*time.Second {
		t.Errorf("the calls took %s", took)
	}
}

func TestGreatLists(t *testing.T) {
	const count = 2000000
	l := numbered(count)
	again := append(slices.Clone(l), l[0])
	checkEnds(t, func() {
		if Twice(l) != -1 || Rising(l) != -1 {
			t.Errorf("of %d ascending strings, Twice is %d and Rising %d", count, Twice(l), Rising(l))
		}
		if Twice(again) != count || Rising(again) != count {
			t.Errorf("with the first one at %d again, Twice is %d and Rising %d", count, Twice(again), Rising(again))
		}
		for i, s := range l {
			if at, ok := Find(l, s); at != i || !ok {
				t.Fatalf("Find of %q = %d, %t", s, at, ok)
			}
			if at, ok := Find(l, s+"-"); at != i+1 || ok {
				t.Fatalf("Find of %q = %d, %t", s+"-", at, ok)
			}
		}
	})
	slices.Reverse(again)
	checkEnds(t, func() {
		if Twice(again) != count || Rising(again) != 2 {
			t.Errorf("of the least one and %d that descend, Twice is %d and Rising %d", count, Twice(again), Rising(again))
		}
		for _, s := range l[:1000] {
			Find(again, s)
		}
	})
}

func TestGreatStrings(t *testing.T) {
	const size = 1 << 26
	less := strings.Repeat("a", size)
	greater := less + "\x00"
	checkEnds(t, func() {
		l := []string{less, greater, less + "a"}
		if Is(less) || Twice(l) != -1 || Rising(l) != -1 {
			t.Error("strings that differ behind their first 2^26 bytes")
		}
		for i, s := range l {
			if at, ok := Find(l, s); at != i || !ok {
				t.Errorf("Find of the string %d = %d, %t", i, at, ok)
			}
		}
		if l = append(l, strings.Clone(greater)); Twice(l) != 3 || Rising(l) != 3 {
			t.Error("a great string again")
		}
	})
}

// R4

func TestTheSameAnswerEachTime(t *testing.T) {
	r := rand.New(rand.NewSource(8))
	for range 300 {
		s := stringAtRandom(r, right, r.Intn(70))
		l := listAtRandom(r, "abc", r.Intn(20), 4)
		sorted := slices.Compact(slices.Sorted(slices.Values(l)))
		for range 20 {
			checkString(t, s)
			checkList(t, l)
			checkPlaces(t, sorted, l)
		}
	}
}
