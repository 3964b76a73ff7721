package route

import (
	"math/rand"
	"regexp"
	"slices"
	"strings"
	"testing"
	"time"
	"unsafe"
)

// What the functions must answer, by the chapter's own words.

// splitOf goes byte by byte.
func splitOf(s string) ([]string, bool) {
	if len(s) > 255 || len(s) == 0 || s[0] != '/' {
		return nil, false
	}
	if s == "/" {
		return nil, true
	}
	var parts []string
	for _, b := range []byte(s) {
		if b == '/' {
			parts = append(parts, "")
		} else {
			parts[len(parts)-1] += string([]byte{b})
		}
	}
	if len(parts) > 32 {
		return nil, false
	}
	return parts, true
}

const oneWord = `[-a-zA-Z0-9_.~%]+`

var (
	routes   = regexp.MustCompile(`\A(/|(/` + oneWord + `){1,32})\z`)
	patterns = regexp.MustCompile(`\A(/|(/(` + oneWord + `|\*)){1,32}|(/(` + oneWord + `|\*)){0,31}/\*\*)\z`)
)

func isOf(s string) bool {
	return len(s) <= 255 && routes.MatchString(s)
}

func patternOf(s string) bool {
	return len(s) <= 255 && patterns.MatchString(s)
}

// joinOf goes part by part.
func joinOf(l []string) string {
	if len(l) == 0 {
		return "/"
	}
	s := ""
	for _, part := range l {
		s += "/" + part
	}
	return s
}

func prefixOf(p, s string) bool {
	head, ok := splitOf(p)
	whole, also := splitOf(s)
	if !ok || !also || len(head) > len(whole) {
		return false
	}
	for i := range head {
		if head[i] != whole[i] {
			return false
		}
	}
	return true
}

// Checks of one call each.

func checkSplit(t *testing.T, s string, want []string, is bool) {
	t.Helper()
	if got, ok := Split(s); ok != is || !slices.Equal(got, want) {
		t.Fatalf("Split(%q) = %q, %t, want %q, %t", s, got, ok, want, is)
	}
}

func checkIs(t *testing.T, s string, want bool) {
	t.Helper()
	if got := Is(s); got != want {
		t.Fatalf("Is(%q) = %t, want %t", s, got, want)
	}
}

func checkPattern(t *testing.T, s string, want bool) {
	t.Helper()
	if got := Pattern(s); got != want {
		t.Fatalf("Pattern(%q) = %t, want %t", s, got, want)
	}
}

func checkJoin(t *testing.T, l []string, want string) {
	t.Helper()
	if got := Join(l); got != want {
		t.Fatalf("Join(%q) = %q, want %q", l, got, want)
	}
}

func checkPrefix(t *testing.T, p, s string, want bool) {
	t.Helper()
	if got := Prefix(p, s); got != want {
		t.Fatalf("Prefix(%q, %q) = %t, want %t", p, s, got, want)
	}
}

// checkString holds all that is said of s alone against the oracles, and P17.6.
func checkString(t *testing.T, s string) {
	t.Helper()
	parts, is := splitOf(s)
	checkSplit(t, s, parts, is)
	checkIs(t, s, isOf(s))
	checkPattern(t, s, patternOf(s))
	checkPrefix(t, s, s, is)
	checkPrefix(t, "/", s, is)
	if is {
		checkJoin(t, parts, s)
	}
	if Is(s) && !Pattern(s) {
		t.Fatalf("%q is a route and no pattern", s)
	}
}

// checkPair holds Prefix against the oracle.
func checkPair(t *testing.T, p, s string) {
	t.Helper()
	checkPrefix(t, p, s, prefixOf(p, s))
}

// What is tried.

const wordBytes = "abcdefghijklmnopqrstuvwxyzABCDEFGHIJKLMNOPQRSTUVWXYZ0123456789-_.~%"

// samples are strings of each sort.
var samples = []string{
	"", "/", "//", "///", "/a", "/a/", "//a", "//a/", "/a/b", "/a//b", "/a/b/c", "/ab", "/ab/c", "/abc", "a", "a/", "a/b", "/A", "/a.b-c_d~e%20/0", "/.", "/..", "/%",
	"/*", "/**", "/***", "/*/*", "/*/**", "/**/*", "/**/**", "/**/", "/*/", "//*", "//**", "/a/*", "/a/**", "/a/***", "/a**", "/a*", "/*a", "/**a", "/*a*", "/**/a", "/a/*/**", "/a/**/b",
	"/*/b", "*", "**", "/\x00", "/\xff/a", "/\u00e4", "/a b", " /a", "/a ", "/a\n", "/a?b", "/a#b", "\\a", "/a\\b", "/~1", "/:a", "/{a}",
}

// stringsOf are all strings of up to that many of the bytes.
func stringsOf(bytes string, size int) []string {
	all := []string{""}
	for from := 0; size > 0; size-- {
		to := len(all)
		for _, s := range all[from:to] {
			for i := range len(bytes) {
				all = append(all, s+bytes[i:i+1])
			}
		}
		from = to
	}
	return all
}

// listsOf are all lists of that many of the strings.
func listsOf(all []string, size int) [][]string {
	if size == 0 {
		return [][]string{nil}
	}
	var lists [][]string
	for _, l := range listsOf(all, size-1) {
		for _, s := range all {
			lists = append(lists, append(slices.Clone(l), s))
		}
	}
	return lists
}

// repeated is a list of that many times the part.
func repeated(part string, count int) []string {
	return slices.Repeat([]string{part}, count)
}

// rowOf is a row of exactly that many bytes and parts, all of whose bytes but the slashes are b; the last part has the most.
func rowOf(size, parts int, b string) string {
	s := strings.Repeat("/"+b, parts)
	return s + strings.Repeat(b, size-len(s))
}

// stringAtRandom is a string of the bytes, in memory of its own.
func stringAtRandom(r *rand.Rand, bytes string, size int) string {
	s := make([]byte, size)
	for i := range s {
		s[i] = bytes[r.Intn(len(bytes))]
	}
	return string(s)
}

// rowAtRandom has up to 35 parts, of up to most of the bytes; some are stars.
func rowAtRandom(r *rand.Rand, bytes string, most int) string {
	s := ""
	for range r.Intn(36) {
		part := stringAtRandom(r, bytes, 1+r.Intn(most))
		if r.Intn(8) == 0 {
			part = "*"
		}
		s += "/" + part
	}
	if r.Intn(3) == 0 {
		s += "/**"
	}
	return s
}

// spoilt is s with one byte of any sort in it, put in, left out, or instead of another.
func spoilt(r *rand.Rand, s string) string {
	at := r.Intn(len(s) + 1)
	b := stringAtRandom(r, "/*a\x00 \xff"+string([]byte{byte(r.Intn(256))}), 1)
	behind := s[at:]
	if behind != "" && r.Intn(2) == 0 {
		behind = behind[1:]
	}
	if r.Intn(4) == 0 {
		b = ""
	}
	return s[:at] + b + behind
}

// P17.1

func TestSplitExamples(t *testing.T) {
	checkSplit(t, "//a/", []string{"", "a", ""}, true)
	checkSplit(t, "/", nil, true)
	checkSplit(t, "//", []string{"", ""}, true)
	checkSplit(t, "///", []string{"", "", ""}, true)
	checkSplit(t, "/a", []string{"a"}, true)
	checkSplit(t, "/a/", []string{"a", ""}, true)
	checkSplit(t, "//a", []string{"", "a"}, true)
	checkSplit(t, "/a/b", []string{"a", "b"}, true)
	checkSplit(t, "/a//b", []string{"a", "", "b"}, true)
	checkSplit(t, "/ab/c", []string{"ab", "c"}, true)
	checkSplit(t, "/a/*/**", []string{"a", "*", "**"}, true)
	checkSplit(t, "/**/a", []string{"**", "a"}, true)
	checkSplit(t, "/ /\x00\n/\xff\\?", []string{" ", "\x00\n", "\xff\\?"}, true)
	checkSplit(t, "/\u00e4/\u2215", []string{"\u00e4", "\u2215"}, true)
	for _, s := range []string{"", "a", "a/", "a/b", " /a", "\x00/a", "\\a", "*", "**", "*/a", "\u2215a", "\ufeff/a", "\n/", "\xff/"} {
		checkSplit(t, s, nil, false)
	}
}

// TestSplitOfEachLength: of one part, of some parts, and of what is no row for other reasons.
func TestSplitOfEachLength(t *testing.T) {
	for size := 1; size <= 1200; size++ {
		one := strings.Repeat("a", size-1)
		if size == 1 {
			checkSplit(t, "/", nil, true)
		} else if size <= 255 {
			checkSplit(t, "/"+one, []string{one}, true)
		} else {
			checkSplit(t, "/"+one, nil, false)
		}
		checkSplit(t, one+"a", nil, false)
		checkString(t, "/"+one)
		checkString(t, one)
		checkString(t, "/"+strings.Repeat("\xff", size-1))
		checkString(t, "/"+strings.Repeat("\u00e4", size))
		checkString(t, strings.Repeat("/", size))
		checkString(t, strings.Repeat("/abcdefg", size))
		if size >= 64 {
			checkString(t, rowOf(size, 32, "a"))
			checkString(t, rowOf(size, 31, "b"))
		}
	}
	for _, size := range []int{1 << 8, 1<<8 + 1, 1 << 9, 1 << 16, 1<<16 + 1, 1<<16 + 200, 1<<16 + 255} {
		checkSplit(t, "/"+strings.Repeat("a", size), nil, false)
	}
}

// TestSplitOfEachNumberOfParts: of parts that are empty, words, or of any bytes, with all lengths that matter.
func TestSplitOfEachNumberOfParts(t *testing.T) {
	for _, part := range []string{"", "a", "ab", "abcdef", "*", "**", "\x00", "\xff\xfe", "a b"} {
		for count := range 140 {
			l := repeated(part, count)
			s := joinOf(l)
			if count == 1 && part == "" {
				l = nil
			}
			if count > 32 || len(s) > 255 {
				checkSplit(t, s, nil, false)
			} else {
				checkSplit(t, s, l, true)
			}
			checkString(t, s)
			checkString(t, s+"/")
			checkString(t, s+"/a")
			checkString(t, "/"+s)
		}
	}
	for _, count := range []int{255, 256, 257, 256 + 32, 512, 1 << 16, 1<<16 + 32} {
		checkSplit(t, strings.Repeat("/", count), nil, false)
	}
	for parts := 1; parts <= 32; parts++ {
		for _, size := range []int{2 * parts, 253, 254, 255} {
			s := rowOf(size, parts, "a")
			checkSplit(t, s, append(repeated("a", parts-1), strings.Repeat("a", size-2*parts+1)), true)
		}
		checkSplit(t, rowOf(256, parts, "a"), nil, false)
	}
	checkSplit(t, rowOf(66, 33, "a"), nil, false)
	checkSplit(t, rowOf(255, 33, "a"), nil, false)
}

// TestSplitOfEachPlaceOfASlash: the parts are what is between, each with bytes of its own.
func TestSplitOfEachPlaceOfASlash(t *testing.T) {
	const size = 255
	s := []byte("/")
	for i := 1; i < size; i++ {
		s = append(s, byte('a'+i%26))
	}
	for i := 1; i < size; i++ {
		for k := i; k < size; k++ {
			row := slices.Clone(s)
			row[i], row[k] = '/', '/'
			if i == k {
				checkSplit(t, string(row), []string{string(s[1:i]), string(s[i+1:])}, true)
			} else {
				checkSplit(t, string(row), []string{string(s[1:i]), string(s[i+1 : k]), string(s[k+1:])}, true)
			}
		}
	}
}

// P17.2

func TestIsExamples(t *testing.T) {
	for _, s := range []string{"/a/b", "/", "/a", "/A", "/0", "/-", "/_", "/.", "/..", "/~", "/%", "/%zz", "/a.b-c_d~e%20", "/a/b/c/d", "/z/Z/9", strings.Repeat("/a", 32), "/" + strings.Repeat("a", 254), "/" + wordBytes} {
		checkIs(t, s, true)
	}
	for _, s := range []string{"/a/", "a", "", "//", "//a", "/a//b", "a/b", "/*", "/**", "/a/*", "/a/**", "/a*", "/ ", "/a b", "/a/ ", "/a\n", "/a/b\n", "/\x00", "/\u00e4", "/\xff", "/a?b=c", "/a#b", "/a:b", "/a@b", "/a,b", "/a;b", "/a+b", "/a!", "/a'b", "/(a)", "/a=b", "/a&b", "/$a", "/[a]", "/a\\b", "/{a}", "/a|b", "/a^b", "/a`b", `/"a"`, "/<a>", "\n/a", " /a", strings.Repeat("/a", 33), "/" + strings.Repeat("a", 255)} {
		checkIs(t, s, false)
	}
}

// TestWordsOfAllBytes: each byte at each place of a part, which is the first, the last or the only one.
func TestWordsOfAllBytes(t *testing.T) {
	for b := range 256 {
		in := strings.IndexByte(wordBytes, byte(b)) >= 0
		for size := 1; size <= 12; size++ {
			for at := range size {
				part := strings.Repeat("a", at) + string([]byte{byte(b)}) + strings.Repeat("a", size-at-1)
				right := in || b == '/' && at > 0 && at < size-1
				for _, s := range []string{"/" + part, "/x/" + part, "/" + part + "/x", "/x/" + part + "/x"} {
					checkIs(t, s, right)
					checkPattern(t, s, right || b == '*' && size == 1)
					checkString(t, s)
				}
			}
		}
	}
}

// TestIsOfEachPlaceOfAWrongByte in long routes.
func TestIsOfEachPlaceOfAWrongByte(t *testing.T) {
	for _, s := range []string{"/" + strings.Repeat("a", 254), rowOf(255, 32, "a"), rowOf(64, 32, "a"), strings.Repeat("/abcdefg", 31)} {
		checkIs(t, s, true)
		checkPattern(t, s, true)
		for at := range s {
			for _, b := range []string{" ", "\x00", "\xff", "+", ":", "@", "[", "`", "{", "\x7f", "\x80", ",", "*"} {
				wrong := s[:at] + b + s[at+1:]
				checkIs(t, wrong, false)
				checkString(t, wrong)
			}
		}
	}
}

// TestLettersOfOtherKinds: what is a letter or a digit elsewhere is none here.
func TestLettersOfOtherKinds(t *testing.T) {
	for n := rune(0x80); n <= 0x10ffff; n++ {
		s := "/" + string(n)
		if Is(s) || Is(s+"a") || Is("/a"+s[1:]) || Pattern(s) || Pattern("/a"+s[1:]) {
			t.Fatalf("%q is taken for a word", s[1:])
		}
	}
}

// P17.3

func TestPatternExamples(t *testing.T) {
	for _, s := range []string{"/**", "/", "/a", "/*", "/a/*", "/a/**", "/a/*/**", "/*/*", "/*/**", "/*/b", "/*/a/*/b/**", "/a.b-c_d~e%20/*", strings.Repeat("/*", 32), strings.Repeat("/*", 31) + "/**", strings.Repeat("/a", 31) + "/**", "/" + strings.Repeat("a", 254), "/" + strings.Repeat("a", 251) + "/**", "/" + strings.Repeat("a", 252) + "/*"} {
		checkPattern(t, s, true)
	}
	for _, s := range []string{"", "/a/***", "/***", "/****", "/**/a", "/**/*", "/**/**", "/**/", "//**", "/a//**", "/*/", "//*", "//", "/a/", "/a//b", "/a*", "/*a", "/a**", "/**a", "/*a*", "/a*b", "/a/b*", "/a/b**", "/* ", "/ *", "/*\n", "/**\n", "/**\x00", "*", "**", "a", "a/*", "a/**", "/a b/**", "/\xff/*", "/\u2217", "/a/**/b", "/**/a/**", strings.Repeat("/*", 33), strings.Repeat("/*", 32) + "/**", strings.Repeat("/a", 32) + "/**", "/" + strings.Repeat("a", 253) + "/*", "/" + strings.Repeat("a", 252) + "/**"} {
		checkPattern(t, s, false)
	}
}

// TestPatternOfAllShortListsOfParts holds them against the oracle and against what the parts say one by one.
func TestPatternOfAllShortListsOfParts(t *testing.T) {
	kinds := map[string]int{"a": 0, "B-1": 0, "*": 1, "**": 2, "***": 3, "": 3, "a*": 3, "*a": 3, "**a": 3, "a**": 3, "a b": 3, "*\x00": 3}
	var all []string
	for part := range kinds {
		all = append(all, part)
	}
	slices.Sort(all)
	for size := 1; size <= 4; size++ {
		for _, l := range listsOf(all, size) {
			s := joinOf(l)
			if s == "/" {
				continue
			}
			is, pattern := true, true
			for i, part := range l {
				is = is && kinds[part] == 0
				pattern = pattern && (kinds[part] <= 1 || kinds[part] == 2 && i == size-1)
			}
			checkIs(t, s, is)
			checkPattern(t, s, pattern)
			checkString(t, s)
		}
	}
}

// TestPatternOfEachPlaceOfStars in rows of each number of parts.
func TestPatternOfEachPlaceOfStars(t *testing.T) {
	for _, other := range []string{"a", "abc", "*"} {
		for count := 1; count <= 40; count++ {
			for at := range count {
				for stars := range 6 {
					l := repeated(other, count)
					l[at] = strings.Repeat("*", stars)
					s := joinOf(l)
					if s != "/" {
						checkPattern(t, s, count <= 32 && (stars == 1 || stars == 2 && at == count-1))
					}
					checkString(t, s)
				}
			}
		}
	}
}

func TestPatternOfEachLength(t *testing.T) {
	for size := 1; size <= 600; size++ {
		one := "/" + strings.Repeat("b", size)
		checkPattern(t, one, size <= 254)
		checkPattern(t, one+"/*", size <= 252)
		checkPattern(t, one+"/**", size <= 251)
		checkPattern(t, one+"/**/c", false)
		checkPattern(t, "/*"+one, size <= 252)
		checkPattern(t, "/**"+one, false)
		checkPattern(t, "/"+strings.Repeat("*", size), size <= 2)
	}
}

// P17.1, P17.2, P17.3, P17.4 and P17.6 together

func TestSamples(t *testing.T) {
	for _, a := range samples {
		checkString(t, a)
		for _, b := range samples {
			checkString(t, a+b)
			checkString(t, a+"/"+b)
		}
	}
}

func TestAllShortStrings(t *testing.T) {
	for _, s := range stringsOf("/a*", 9) {
		checkString(t, s)
	}
	for _, s := range stringsOf("/*%~ \x00\xff", 5) {
		checkString(t, s)
	}
	for a := range 256 {
		for b := range 256 {
			checkString(t, string([]byte{byte(a), byte(b)}))
			checkString(t, string([]byte{'/', byte(a), byte(b)}))
		}
	}
}

func TestStringsAtRandom(t *testing.T) {
	r := rand.New(rand.NewSource(1))
	yes, no := 0, 0
	for range 40000 {
		s := rowAtRandom(r, wordBytes, 1+r.Intn(9))
		checkString(t, s)
		if Pattern(s) {
			yes++
		} else {
			no++
		}
		checkString(t, spoilt(r, s))
		checkString(t, spoilt(r, spoilt(r, s)))
		checkString(t, "/"+stringAtRandom(r, "/a*", r.Intn(70)))
	}
	if yes < 3000 || no < 3000 {
		t.Fatalf("%d are patterns, and %d are none", yes, no)
	}
}

// P17.4

func TestJoinExamples(t *testing.T) {
	checkJoin(t, nil, "/")
	checkJoin(t, []string{}, "/")
	checkJoin(t, []string{""}, "/")
	checkJoin(t, []string{"", ""}, "//")
	checkJoin(t, []string{"", "a", ""}, "//a/")
	checkJoin(t, []string{"a"}, "/a")
	checkJoin(t, []string{"a", "b"}, "/a/b")
	checkJoin(t, []string{"a", ""}, "/a/")
	checkJoin(t, []string{"/"}, "//")
	checkJoin(t, []string{"/a/"}, "//a/")
	checkJoin(t, []string{"a/b", "c"}, "/a/b/c")
	checkJoin(t, []string{"*", "**"}, "/*/**")
	checkJoin(t, []string{" ", "\x00", "\xff", "\u00e4"}, "/ /\x00/\xff/\u00e4")
}

func TestJoinOfAllShortLists(t *testing.T) {
	for size := range 5 {
		for _, l := range listsOf([]string{"", "a", "bc", "/", "/d", "e/", "*", "\xff"}, size) {
			checkJoin(t, l, joinOf(l))
		}
	}
}

// TestJoinOfMore parts than a row has, and longer ones.
func TestJoinOfMore(t *testing.T) {
	for count := range 300 {
		for _, part := range []string{"", "a", "bcd", "\xff"} {
			checkJoin(t, repeated(part, count), joinOf(repeated(part, count)))
		}
		checkJoin(t, []string{strings.Repeat("a", count), "b"}, "/"+strings.Repeat("a", count)+"/b")
	}
}

// P17.5

func TestPrefixExamples(t *testing.T) {
	for _, pair := range [][2]string{
		{"/", "/"}, {"/", "/a"}, {"/", "//"}, {"/", "/a/b/c"}, {"/", "/*/**"}, {"/a", "/a"}, {"/a", "/a/"}, {"/a", "/a/b"}, {"/a/b", "/a/b/c"}, {"//", "//"}, {"//", "///"}, {"//a", "//a/b"}, {"/a/", "/a/"}, {"/a/", "/a//b"},
		{"/ ", "/ /b"}, {"/\xff\x00", "/\xff\x00/\xfe"}, {"/*", "/*/a"}, {"/**", "/**/a"}, {"/%41", "/%41/b"},
	} {
		checkPrefix(t, pair[0], pair[1], true)
	}
	for _, pair := range [][2]string{
		{"/a/b", "/a"}, {"/a", "/ab"}, {"/ab", "/a"}, {"/a", "/"}, {"/a", "/b"}, {"/a", "/b/a"}, {"/b", "/a/b"}, {"/a/b", "/a/c"}, {"/a/b", "/b/a"}, {"/a/b", "/a/bc"}, {"/a/", "/a"}, {"/a/", "/a/b"}, {"//", "/"}, {"//", "/a"}, {"//", "//a"}, {"//", "/a/"}, {"//a", "/a"},
		{"/*", "/a"}, {"/**", "/a"}, {"/**", "/"}, {"/A", "/a"}, {"/%41", "/A"}, {"/a", "/a "},
		{"", ""}, {"", "/"}, {"", "/a"}, {"/", ""}, {"/a", ""}, {"a", "a"}, {"a", "a/b"}, {"a", "/a"}, {"/a", "a"}, {"a", "/a/b"}, {"/a", "a/b"}, {"/", "a"}, {" /a", "/a"}, {"/a", " /a"},
	} {
		checkPrefix(t, pair[0], pair[1], false)
	}
}

func TestPrefixOfAllShortPairs(t *testing.T) {
	for _, all := range [][]string{stringsOf("/a", 7), stringsOf("/ab", 5), stringsOf("/*\xff", 4), samples} {
		for _, p := range all {
			for _, s := range all {
				checkPair(t, p, s)
			}
		}
	}
}

// TestPrefixOfEachNumberOfParts: up to more than a row has, on both sides.
func TestPrefixOfEachNumberOfParts(t *testing.T) {
	for _, part := range []string{"", "a", "abcdef"} {
		for few := range 40 {
			for many := range 40 {
				p, s := joinOf(repeated(part, few)), joinOf(repeated(part, many))
				if part != "" {
					checkPrefix(t, p, s, few <= many && many <= 32)
				}
				checkPair(t, p, s)
			}
		}
	}
}

// TestPrefixOfEachOtherPart: one part of the same number of bytes, or of one more or less, is another one.
func TestPrefixOfEachOtherPart(t *testing.T) {
	for count := 1; count <= 32; count++ {
		l := make([]string, count)
		for i := range l {
			l[i] = string([]byte{'a' + byte(i%26), 'A' + byte(i%26)})
		}
		s := joinOf(l)
		for size := range count + 1 {
			checkPrefix(t, joinOf(l[:size]), s, true)
			checkPrefix(t, joinOf(l[:size])+"/", s, false)
			for at := range size {
				for _, other := range []string{"", l[at][:1], l[at][1:], l[at] + "a", strings.ToLower(l[at]), "*", "**"} {
					changed := slices.Clone(l[:size])
					changed[at] = other
					if joinOf(changed) == "/" {
						continue
					}
					checkPrefix(t, joinOf(changed), s, false)
					checkPrefix(t, s, joinOf(changed), false)
				}
			}
		}
	}
}

// TestPrefixOfEachLength: both must be rows.
func TestPrefixOfEachLength(t *testing.T) {
	for size := range 600 {
		long := "/a/" + strings.Repeat("b", size)
		checkPrefix(t, "/a", long, size <= 252)
		checkPrefix(t, long, long, size <= 252)
		checkPrefix(t, long, "/a", false)
		checkPrefix(t, long, long+"/c", size <= 250)
		checkPrefix(t, long, long+"/", size <= 251)
	}
}

func TestPrefixAtRandom(t *testing.T) {
	r := rand.New(rand.NewSource(2))
	yes := 0
	for range 100000 {
		s := rowAtRandom(r, "ab", 2)
		parts, _ := splitOf(s)
		p := joinOf(parts[:r.Intn(len(parts)+1)])
		if r.Intn(2) == 0 {
			p = spoilt(r, p)
		}
		checkPair(t, p, s)
		checkPair(t, s, p)
		checkPair(t, s[:r.Intn(len(s)+1)], s)
		checkPair(t, p, spoilt(r, s))
		if Prefix(p, s) {
			yes++
		}
	}
	if yes < 30000 || yes > 90000 {
		t.Fatalf("of 100000, %d are prefixes", yes)
	}
}

// P17.6

func TestJoiningThePartsOfARow(t *testing.T) {
	r := rand.New(rand.NewSource(3))
	count := 0
	for range 50000 {
		s := "/" + stringAtRandom(r, "/ab*\x00\xff", r.Intn(60))
		parts, ok := Split(s)
		if !ok {
			continue
		}
		count++
		checkJoin(t, parts, s)
		for size := range parts { // the first part alone, if it is empty, joins to /, which is a prefix of every row
			checkPrefix(t, Join(parts[:size]), s, true)
		}
	}
	if count < 40000 {
		t.Fatalf("only %d are rows", count)
	}
}

func TestEachRouteIsAPattern(t *testing.T) {
	r := rand.New(rand.NewSource(4))
	count := 0
	for range 50000 {
		var parts []string
		for range r.Intn(33) {
			parts = append(parts, stringAtRandom(r, wordBytes, 1+r.Intn(10)))
		}
		s := Join(parts)
		checkIs(t, s, len(s) <= 255)
		checkPattern(t, s, len(s) <= 255)
		if Is(s) {
			count++
		}
	}
	if count < 40000 {
		t.Fatalf("only %d are routes", count)
	}
}

// R3: new memory, and what is handed in is left.

// within tells whether the bytes of part are some of s, in the same memory.
func within(part, s string) bool {
	if part == "" || s == "" {
		return false
	}
	at, from := uintptr(unsafe.Pointer(unsafe.StringData(part))), uintptr(unsafe.Pointer(unsafe.StringData(s)))
	return at < from+uintptr(len(s)) && from < at+uintptr(len(part))
}

func TestPartsShareNoMemoryWithTheRow(t *testing.T) {
	for _, s := range samples {
		s = strings.Clone(s)
		parts, _ := Split(s)
		for _, part := range parts {
			if within(part, s) {
				t.Fatalf("the part %q of %q is in its memory", part, s)
			}
		}
	}
}

func TestJoinedSharesNoMemoryWithItsParts(t *testing.T) {
	for _, l := range [][]string{{"a"}, {"/"}, {"ab", "c"}, {"", "a"}, {"a", ""}, {"/a/b"}} {
		s := Join(l)
		for _, part := range l {
			if within(part, s) {
				t.Fatalf("the part %q is in the memory of %q", part, s)
			}
		}
	}
}

// TestWhatIsPutBehindParts: it gets into no other slice, since nothing is behind them.
func TestWhatIsPutBehindParts(t *testing.T) {
	for count := range 33 {
		s := strings.Repeat("/a", count)
		if count == 0 {
			s = "/"
		}
		parts, ok := Split(s)
		if !ok || len(parts) != count || cap(parts) != count {
			t.Fatalf("Split(%q) = %q, %t, with room for %d", s, parts, ok, cap(parts))
		}
		one, two := append(parts, "one"), append(parts, "two")
		if one[count] != "one" || two[count] != "two" {
			t.Fatalf("%q and %q share memory", one, two)
		}
		checkSplit(t, s, repeated("a", count), true)
	}
}

// TestAnswersAreOfTheirOwn: what is done to one is not seen in another.
func TestAnswersAreOfTheirOwn(t *testing.T) {
	for _, s := range samples {
		want, is := splitOf(s)
		first, _ := Split(s)
		second, _ := Split(s)
		for i := range first {
			first[i] = "other"
		}
		if !slices.Equal(second, want) {
			t.Fatalf("the parts of %q were changed to %q", s, second)
		}
		checkSplit(t, s, want, is)
	}
}

func TestListsAreLeft(t *testing.T) {
	r := rand.New(rand.NewSource(5))
	for range 5000 {
		var all []string
		for range 3 + r.Intn(10) {
			all = append(all, stringAtRandom(r, "/ab", r.Intn(3)))
		}
		before := slices.Clone(all)
		l := all[:len(all)-3]
		checkJoin(t, l, joinOf(l))
		if !slices.Equal(all, before) {
			t.Fatalf("Join changes %q to %q", before, all)
		}
	}
}

// R1 and the bound: great arguments

// checkEnds fails if the calls take far longer than they need.
func checkEnds(t *testing.T, calls func()) {
	t.Helper()
	start := time.Now()
	calls()
	if took := time.Since(start); took > 20*time.Second {
		t.Errorf("the calls took %s", took)
	}
}

func TestGreatStrings(t *testing.T) {
	const size = 1 << 24
	for _, s := range []string{strings.Repeat("a", size), strings.Repeat("/", size), "/" + strings.Repeat("a", size), strings.Repeat("/a", size/2), strings.Repeat("/*", size/2), "/" + strings.Repeat("*", size), strings.Repeat("\xff", size), strings.Repeat("/a", 16) + strings.Repeat("b", size), "/**/" + strings.Repeat("b", size)} {
		checkEnds(t, func() {
			if parts, ok := Split(s); ok || len(parts) != 0 {
				t.Errorf("Split of %d bytes = %d parts, %t", len(s), len(parts), ok)
			}
			if Is(s) || Pattern(s) || Prefix(s, s) || Prefix("/", s) || Prefix(s, "/") || Prefix("/a", s) {
				t.Errorf("a string of %d bytes is taken for a row", len(s))
			}
		})
	}
}

func TestGreatLists(t *testing.T) {
	const count = 1 << 22
	checkEnds(t, func() {
		if s := Join(repeated("ab", count)); s != strings.Repeat("/ab", count) {
			t.Errorf("Join of %d parts has %d bytes", count, len(s))
		}
		if s := Join(repeated("", count)); s != strings.Repeat("/", count) {
			t.Errorf("Join of %d empty parts has %d bytes", count, len(s))
		}
		long := strings.Repeat("a/", 1<<24)
		if s := Join([]string{long, long}); s != "/"+long+"/"+long {
			t.Errorf("Join of two parts of %d bytes has %d bytes", len(long), len(s))
		}
	})
}

// R4

func TestTheSameAnswerEachTime(t *testing.T) {
	r := rand.New(rand.NewSource(6))
	for range 300 {
		s := rowAtRandom(r, wordBytes, 5)
		p := spoilt(r, s)
		for range 20 {
			checkString(t, s)
			checkPair(t, p, s)
		}
	}
}
