package order

import (
	"math/rand"
	"regexp"
	"slices"
	"strings"
	"testing"
	"time"

	"stoplog/match"
)

// What the functions must answer, by the chapter's own words.

const oneWord = `[-a-zA-Z0-9_.~%]+`

var (
	routes   = regexp.MustCompile(`\A(/|(/` + oneWord + `){1,32})\z`)
	patterns = regexp.MustCompile(`\A(/|(/(` + oneWord + `|\*)){1,32}|(/(` + oneWord + `|\*)){0,31}/\*\*)\z`)
	words    = regexp.MustCompile(`/` + oneWord)
)

func routeOf(s string) bool {
	return len(s) <= 255 && routes.MatchString(s)
}

func patternOf(s string) bool {
	return len(s) <= 255 && patterns.MatchString(s)
}

// digits are put for the parts of a pattern, once its words are gone.
var digits = strings.NewReplacer("/**", "3", "/*", "1", "/!", "0", "/", "")

// keys are those of strings, once found.
var keys = map[string]string{}

func keyOf(p string) string {
	key, ok := keys[p]
	if !ok {
		if patternOf(p) {
			key = digits.Replace(words.ReplaceAllString(p, "/!")) + "2"
		}
		if len(keys) > 5000 {
			clear(keys)
		}
		keys[p] = key
	}
	return key
}

func lessOf(p, q string) bool {
	if keyOf(p) != keyOf(q) {
		return keyOf(p) < keyOf(q)
	}
	return p < q
}

// partsOf are the parts of a row.
func partsOf(s string) []string {
	if s == "/" {
		return nil
	}
	return strings.Split(s[1:], "/")
}

func isOf(p, s string) bool {
	return patternOf(p) && routeOf(s) && partsMatch(partsOf(p), partsOf(s))
}

// partsMatch goes from part to part.
func partsMatch(p, s []string) bool {
	if len(p) == 0 {
		return len(s) == 0
	}
	if p[0] == "**" {
		return true
	}
	return len(s) > 0 && (p[0] == "*" || p[0] == s[0]) && partsMatch(p[1:], s[1:])
}

// bestOf holds each pattern that matches against each other one.
func bestOf(l []string, s string) int {
	for i, p := range l {
		first := isOf(p, s)
		for j, q := range l {
			if isOf(q, s) && (lessOf(q, p) || q == p && j < i) {
				first = false
			}
		}
		if first {
			return i
		}
	}
	return -1
}

// Checks of one call each.

func checkKey(t *testing.T, p, want string) {
	t.Helper()
	if got := Key(p); got != want {
		t.Fatalf("Key(%q) = %q, want %q", p, got, want)
	}
}

func checkLess(t *testing.T, p, q string, want bool) {
	t.Helper()
	if got := Less(p, q); got != want {
		t.Fatalf("Less(%q, %q) = %t, want %t", p, q, got, want)
	}
}

func checkBest(t *testing.T, l []string, s string, want int) {
	t.Helper()
	if got := Best(l, s); got != want {
		t.Fatalf("Best(%q, %q) = %d, want %d", l, s, got, want)
	}
}

// checkPair holds Less of p and q, in both orders, against the oracle, and against the order being total.
func checkPair(t *testing.T, p, q string) {
	t.Helper()
	checkLess(t, p, q, lessOf(p, q))
	checkLess(t, q, p, lessOf(q, p))
	if p != q && Less(p, q) == Less(q, p) {
		t.Fatalf("Less(%q, %q) and Less the other way round are both %t", p, q, Less(p, q))
	}
	if match.Covers(p, q) {
		checkLess(t, p, q, false)
	}
}

// checkRising holds Less of all strings of the list, which are told in their order, against it.
func checkRising(t *testing.T, l []string) {
	t.Helper()
	for i, p := range l {
		for j, q := range l {
			checkLess(t, p, q, i < j)
			checkPair(t, p, q)
		}
	}
}

// What is tried.

const wordBytes = "abcdefghijklmnopqrstuvwxyzABCDEFGHIJKLMNOPQRSTUVWXYZ0123456789-_.~%"

// wrongs are strings that are no patterns.
var wrongs = []string{
	"", "a", "*", "**", "a/b", "//", "///", "/a/", "//a", "/a//b", "/*/", "/**/", "//*", "//**", "/***", "/a/***", "/**/*", "/**/**", "/**/a", "/a/**/b", "/a*", "/*a", "/a**", "/**a", "/*a*", "/a/*b",
	" /a", "/a ", "/a\n", "/a b", "/a?b", "/a#b", "/:a", "/{a}", "/a\\b", "\\a", "/\x00", "/a\x00", "/\xff", "/\u00e4", "/a,b", "/a+b", "/a@b", "0", "2", "32", "/!",
	strings.Repeat("/a", 33), strings.Repeat("/*", 33), strings.Repeat("/a", 32) + "/**", "/" + strings.Repeat("a", 255), "/" + strings.Repeat("a", 252) + "/**",
}

// stringsOf are all strings of up to that many of the bytes.
func stringsOf(bytes string, size int) []string {
	all := []string{""}
	for from := 0; size > 0; size-- {
		to := len(all)
		for _, s := range all[from:to] {
			for i := range len(bytes) {
				all = append(all, s+bytes[i:i+1])
			}
		}
		from = to
	}
	return all
}

// rowsOf are all rows of up to that many of the parts.
func rowsOf(size int, parts ...string) []string {
	all := []string{""}
	for from := 0; size > 0; size-- {
		to := len(all)
		for _, s := range all[from:to] {
			for _, part := range parts {
				all = append(all, s+"/"+part)
			}
		}
		from = to
	}
	all[0] = "/"
	return all
}

// joined is the row of the parts.
func joined(parts []string) string {
	return "/" + strings.Join(parts, "/")
}

// repeated is a list of that many times the part.
func repeated(part string, count int) []string {
	return slices.Repeat([]string{part}, count)
}

// stringAtRandom is a string of the bytes, in memory of its own.
func stringAtRandom(r *rand.Rand, bytes string, size int) string {
	s := make([]byte, size)
	for i := range s {
		s[i] = bytes[r.Intn(len(bytes))]
	}
	return string(s)
}

// routeAtRandom has up to most parts, of up to size of the bytes.
func routeAtRandom(r *rand.Rand, bytes string, most, size int) string {
	parts := make([]string, r.Intn(most+1))
	for i := range parts {
		parts[i] = stringAtRandom(r, bytes, 1+r.Intn(size))
	}
	return joined(parts)
}

// patternAtRandom matches the route s, if it is a pattern.
func patternAtRandom(r *rand.Rand, s string) string {
	parts := partsOf(s)
	for i := range parts {
		if r.Intn(3) == 0 {
			parts[i] = "*"
		}
	}
	if r.Intn(3) == 0 {
		parts = append(parts[:r.Intn(len(parts)+1)], "**")
	}
	return joined(parts)
}

// wordsAtRandom is p with some bytes of its words made others of the bytes.
func wordsAtRandom(r *rand.Rand, p, bytes string) string {
	s := []byte(p)
	for i, b := range s {
		if b != '/' && b != '*' && r.Intn(1+len(s)) < 4 {
			s[i] = bytes[r.Intn(len(bytes))]
		}
	}
	return string(s)
}

// spoilt is s with one byte of any sort in it, put in, left out, or instead of another.
func spoilt(r *rand.Rand, s string) string {
	at := r.Intn(len(s) + 1)
	b := stringAtRandom(r, "/*a\x00 \xff"+string([]byte{byte(r.Intn(256))}), 1)
	behind := s[at:]
	if behind != "" && r.Intn(2) == 0 {
		behind = behind[1:]
	}
	if r.Intn(4) == 0 {
		b = ""
	}
	return s[:at] + b + behind
}

// P19.1

func TestKeyExamples(t *testing.T) {
	for p, want := range map[string]string{
		"/": "2", "/**": "32", "/*": "12", "/a": "02",
		"/a/b": "002", "/a/*": "012", "/a/**": "032", "/*/a": "102", "/*/*": "112", "/*/**": "132",
		"/a/*/**": "0132", "/*/a/*/a": "10102", "/a/b/c/**": "00032",
		"/0": "02", "/1": "02", "/2/3": "002", "/32": "02", "/.": "02", "/..": "02", "/%2A": "02", "/-_.~%": "02", "/abc": "02",
	} {
		checkKey(t, p, want)
		checkKey(t, p, keyOf(p))
	}
}

func TestKeyOfWrongs(t *testing.T) {
	for _, wrong := range wrongs {
		if patternOf(wrong) {
			t.Fatalf("%q is a pattern", wrong)
		}
		checkKey(t, wrong, "")
	}
}

func TestKeyOfAllShortRows(t *testing.T) {
	for _, p := range rowsOf(6, "a", "0ab", "*", "**", "") {
		checkKey(t, p, keyOf(p))
	}
}

func TestKeyOfAllShortStrings(t *testing.T) {
	for _, p := range slices.Concat(stringsOf("/a*", 9), stringsOf("/a*b\x00", 5)) {
		checkKey(t, p, keyOf(p))
	}
}

func TestKeyOfEachByte(t *testing.T) {
	for b := range 256 {
		part := string([]byte{byte(b)})
		want, longer := "", ""
		switch {
		case strings.Contains(wordBytes, part):
			want, longer = "02", "02"
		case part == "*":
			want = "12"
		}
		checkKey(t, "/"+part, want)
		checkKey(t, "/"+part+"a", longer)
		checkKey(t, "/a"+part, longer)
		checkKey(t, part+"/a", "")
		if want != "" {
			checkKey(t, "/*/"+part+"/**", "1"+want[:1]+"32")
		}
	}
}

func TestKeyOfEachNumberOfParts(t *testing.T) {
	for count := range 40 {
		plain, stars, whole, starry := joined(repeated("a", count)), joined(repeated("*", count)), joined(append(repeated("a", count), "**")), joined(append(repeated("*", count), "**"))
		if count <= 32 {
			checkKey(t, plain, strings.Repeat("0", count)+"2")
			checkKey(t, stars, strings.Repeat("1", count)+"2")
		} else {
			checkKey(t, plain, "")
			checkKey(t, stars, "")
		}
		if count <= 31 {
			checkKey(t, whole, strings.Repeat("0", count)+"32")
			checkKey(t, starry, strings.Repeat("1", count)+"32")
		} else {
			checkKey(t, whole, "")
			checkKey(t, starry, "")
		}
	}
}

// TestKeyOfEachOtherPart: one part of many is another one.
func TestKeyOfEachOtherPart(t *testing.T) {
	for count := 1; count <= 32; count++ {
		for at := range count {
			for _, parts := range [][2]string{{"word", "*"}, {"*", "word"}} {
				row := repeated(parts[0], count)
				row[at] = parts[1]
				digit, other := keyOf("/" + parts[0])[:1], keyOf("/" + parts[1])[:1]
				want := strings.Repeat(digit, at) + other + strings.Repeat(digit, count-at-1)
				if p := joined(row); len(p) <= 255 {
					checkKey(t, p, want+"2")
				}
				row[at] = "**"
				wholly := ""
				if at == count-1 {
					wholly = strings.Repeat(digit, at) + "32"
				}
				if p := joined(row); len(p) <= 255 {
					checkKey(t, p, wholly)
				}
			}
		}
	}
}

func TestKeyOfEachLength(t *testing.T) {
	for size := 1; size <= 260; size++ {
		word := "/" + strings.Repeat("a", size)
		for behind, digits := range map[string]string{"": "", "/*": "1", "/**": "3", "/b/*/**": "013"} {
			want := "0" + digits + "2"
			if len(word+behind) > 255 {
				want = ""
			}
			checkKey(t, word+behind, want)
		}
	}
}

func TestKeyAtRandom(t *testing.T) {
	r := rand.New(rand.NewSource(1))
	for range 20000 {
		p := patternAtRandom(r, routeAtRandom(r, wordBytes, 34, 8))
		checkKey(t, p, keyOf(p))
		p = spoilt(r, p)
		checkKey(t, p, keyOf(p))
	}
}

// P19.2

func TestLessExamples(t *testing.T) {
	for _, pair := range [][2]string{
		{"/a/b", "/a/*"}, {"/a/*", "/a/**"}, {"/a/b", "/a/**"}, {"/a", "/a/**"}, {"/", "/**"}, {"/a", "/"}, {"/*", "/"}, {"/a/b", "/a"}, {"/a/*", "/a"}, {"/a", "/*"}, {"/z", "/*"}, {"/z/**", "/*/a"},
		{"/a", "/b"}, {"/a", "/aa"}, {"/B", "/a"}, {"/b/a", "/a"}, {"/*/a", "/*/b"}, {"/a/b/**", "/a/**"}, {"/*/**", "/**"}, {"/a/**", "/b/**"},
	} {
		checkLess(t, pair[0], pair[1], true)
		checkLess(t, pair[1], pair[0], false)
	}
}

// TestLessInAWrittenOrder: strings in their order, those that are no patterns ahead of all that are.
func TestLessInAWrittenOrder(t *testing.T) {
	checkRising(t, []string{
		"", "\x00", "*", "**", "/\x00", "/***", "/**/a", "//", "/a\x00", "/a ", "/a/", "/a/**/b", "/a//", "/\u00e4", "/\xff", "0", "2", "a", "b", "b/", "\xff",
		"/a/b/c", "/a/b/d", "/b/b/b", "/a/b/*", "/a/b", "/a/bb", "/aa/b", "/a/b/**", "/b/a/**", "/a/*/a", "/a/*", "/b/*", "/a/*/**", "/%", "/-", "/.", "/0", "/A", "/Z", "/_", "/a", "/a-", "/a.", "/a0", "/aa", "/b", "/~", "/a/**", "/b/**",
		"/*/a/a", "/*/a", "/*/b", "/*/a/**", "/*/*/a", "/*/*", "/*/*/**", "/*", "/*/**", "/", "/**",
	})
}

func TestLessOfAllShortPatterns(t *testing.T) {
	all := rowsOf(4, "a", "b", "*", "**")
	for _, p := range all {
		for _, q := range all {
			checkPair(t, p, q)
		}
	}
}

func TestLessOfAllShortStrings(t *testing.T) {
	for _, bytes := range []string{"/a*", "/ab"} {
		all := stringsOf(bytes, 5)
		for _, p := range all {
			for _, q := range all {
				checkPair(t, p, q)
			}
		}
	}
	all := stringsOf("/a*\x00\xff", 3)
	for _, p := range all {
		for _, q := range all {
			checkPair(t, p, q)
		}
	}
}

// TestLessOfWrongs: a string that is no pattern has the empty key, and so precedes each pattern.
func TestLessOfWrongs(t *testing.T) {
	for _, wrong := range wrongs {
		for _, p := range rowsOf(3, "a", "%", "*") {
			checkLess(t, wrong, p, true)
			checkLess(t, p, wrong, false)
		}
		for _, other := range wrongs {
			checkLess(t, wrong, other, wrong < other)
		}
	}
}

// TestLessOfEachByte: patterns and others, by the bytes and not by the runes or the letters.
func TestLessOfEachByte(t *testing.T) {
	for b := range 256 {
		for other := range 256 {
			for _, ahead := range []string{"", "/", "/a", "/*/"} {
				checkPair(t, ahead+string([]byte{byte(b)}), ahead+string([]byte{byte(other)}))
			}
			if b != '/' && other != '/' {
				checkLess(t, string([]byte{byte(b)}), string([]byte{byte(other)}), b < other)
			}
		}
	}
}

// TestLessByEachPlace: one part, or one byte of a word, is another one.
func TestLessByEachPlace(t *testing.T) {
	for count := 1; count <= 32; count++ {
		for at := range count {
			row := repeated("b", count)
			plain := joined(row)
			for part, first := range map[string]bool{"a": false, "B": false, "c": true, "bb": true, "*": true} {
				row[at] = part
				checkLess(t, plain, joined(row), first)
				checkLess(t, joined(row), plain, !first)
			}
			checkLess(t, plain, joined(append(row[:at:at], "**")), true)
			checkLess(t, plain, joined(row[:at:at]), true)
			checkLess(t, joined(row[:at:at]), plain, false)
		}
	}
	for size := 1; size <= 254; size++ {
		word := "/" + strings.Repeat("m", size)
		for _, at := range []int{1, (1 + size) / 2, size} {
			checkLess(t, word, word[:at]+"n"+word[at+1:], true)
			checkLess(t, word, word[:at]+"M"+word[at+1:], false)
			checkLess(t, word[:at], word, at > 1)
		}
	}
}

// TestLessByTheFirstOtherPart: what stands further right counts only where all that stands left of it is alike.
func TestLessByTheFirstOtherPart(t *testing.T) {
	for count := 2; count <= 32; count++ {
		for at := range count - 1 {
			p, q := repeated("*", count), repeated("a", count)
			p[at] = "z"
			for i := range at {
				q[i] = "*"
			}
			q[at] = "*"
			checkLess(t, joined(p), joined(q), true)
			checkLess(t, joined(q), joined(p), false)
			q[at] = "**"
			checkLess(t, joined(p), joined(q[:at+1]), true)
			checkLess(t, joined(q[:at+1]), joined(p), false)
		}
	}
}

func TestLessAtRandom(t *testing.T) {
	r := rand.New(rand.NewSource(2))
	same := 0
	for range 20000 {
		bytes, most, size := wordBytes, 33, 8
		if r.Intn(2) == 0 {
			bytes, most, size = "ab", 6, 1
		}
		s := routeAtRandom(r, bytes, most, size)
		p, q := patternAtRandom(r, s), patternAtRandom(r, s)
		switch r.Intn(4) {
		case 0:
			q = patternAtRandom(r, routeAtRandom(r, bytes, most, size))
		case 1:
			q = wordsAtRandom(r, p, bytes)
		}
		checkPair(t, p, q)
		checkPair(t, spoilt(r, p), q)
		checkPair(t, spoilt(r, p), spoilt(r, q))
		if p != q && patternOf(p) && keyOf(p) == keyOf(q) {
			same++
		}
	}
	if same < 1000 {
		t.Fatalf("only %d pairs had the same key", same)
	}
}

// P19.3

func TestBestExamples(t *testing.T) {
	checkBest(t, []string{"/a/**", "/*", "/**"}, "/a", 0)
	checkBest(t, []string{"/**", "/*", "/a/**"}, "/a", 2)
	checkBest(t, []string{"/**", "/*", "/a/**", "/a"}, "/a", 3)
	checkBest(t, []string{"/a", "/a"}, "/a", 0)
	checkBest(t, []string{"/b", "/a", "/a"}, "/a", 1)
	checkBest(t, []string{"/a/b", "/a/*", "/a/**"}, "/a/c", 1)
	checkBest(t, []string{"/a/b", "/a/*", "/a/**"}, "/a/b/c", 2)
	checkBest(t, []string{"/a/b", "/a/*", "/a/**"}, "/b", -1)
	checkBest(t, []string{"/*/b", "/a/*"}, "/a/b", 1)
	checkBest(t, []string{"/**", "/"}, "/", 1)
	checkBest(t, []string{"/*/**", "/**"}, "/", 1)
	checkBest(t, []string{"/*/**", "/**"}, "/a", 0)
	checkBest(t, []string{"/**"}, "/", 0)
}

func TestBestOfNone(t *testing.T) {
	checkBest(t, nil, "/a", -1)
	checkBest(t, []string{}, "/a", -1)
	checkBest(t, nil, "", -1)
	checkBest(t, []string{""}, "", -1)
	checkBest(t, []string{"", "a", "/a/", "/b", "/a/b"}, "/a", -1)
}

// TestBestOfWrongs: a string that is no pattern counts for nothing, though its key is the least, and one that is no route is matched by none.
func TestBestOfWrongs(t *testing.T) {
	for _, wrong := range wrongs {
		checkBest(t, []string{wrong}, "/a", -1)
		checkBest(t, []string{wrong, "/**", wrong}, "/a", 1)
		checkBest(t, []string{"/**", wrong, "/a"}, "/a", 2)
		checkBest(t, []string{"/**", "/*", wrong, "/a"}, wrong, -1)
		checkBest(t, []string{wrong, "/**"}, wrong, -1)
		if routeOf(wrong) {
			t.Fatalf("%q is a route", wrong)
		}
	}
	for _, p := range []string{"/*", "/**", "/a/*", "/a/**"} {
		checkBest(t, []string{"/**", "/*", p}, p, -1)
	}
}

// TestBestOfAllShortLists: all lists of three of the patterns.
func TestBestOfAllShortLists(t *testing.T) {
	all := []string{"/", "/**", "/*", "/a", "/b", "/a/**", "/*/**", "/a/b", "/a/*", "/*/b", "/*/*", "/*/*/**", "/a/b/**", "/**/a", ""}
	for _, s := range []string{"/", "/a", "/b", "/a/b", "/b/b", "/b/a", "/a/b/c", "/*", ""} {
		for _, p := range all {
			checkBest(t, []string{p}, s, bestOf([]string{p}, s))
			for _, q := range all {
				checkBest(t, []string{p, q}, s, bestOf([]string{p, q}, s))
				for _, o := range all {
					checkBest(t, []string{p, q, o}, s, bestOf([]string{p, q, o}, s))
				}
			}
		}
	}
}

// TestBestAtEachPlace: the best one stands once, and then twice, among others.
func TestBestAtEachPlace(t *testing.T) {
	for count := 1; count <= 40; count++ {
		for at := range count {
			for _, other := range []string{"/a/*", "/a/b/**", "/**", "/a/c", "/a", ""} {
				l := repeated(other, count)
				l[at] = strings.Clone("/a/b")
				checkBest(t, l, "/a/b", at)
				l[count-1] = strings.Clone("/a/b")
				checkBest(t, l, "/a/b", at)
			}
		}
	}
}

func TestBestAtRandom(t *testing.T) {
	r := rand.New(rand.NewSource(3))
	none := 0
	for range 6000 {
		s := routeAtRandom(r, "ab", 5, 1)
		if r.Intn(3) == 0 {
			s = routeAtRandom(r, wordBytes, 34, 8)
		}
		l := make([]string, r.Intn(12))
		for i := range l {
			l[i] = patternAtRandom(r, s)
			switch r.Intn(4) {
			case 0:
				l[i] = patternAtRandom(r, routeAtRandom(r, "ab", 5, 1))
			case 1:
				l[i] = spoilt(r, l[i])
			}
		}
		want := bestOf(l, s)
		checkBest(t, l, s, want)
		other := spoilt(r, s)
		checkBest(t, l, other, bestOf(l, other))
		if want < 0 {
			none++
		}
	}
	if none > 3000 {
		t.Fatalf("%d lists had no pattern that matches", none)
	}
}

// TestBestOfAnyOrder: the patterns' own places do not count, but among equal ones.
func TestBestOfAnyOrder(t *testing.T) {
	r := rand.New(rand.NewSource(4))
	for range 2000 {
		s := routeAtRandom(r, "ab", 5, 1)
		var l []string
		for range 1 + r.Intn(8) {
			l = append(l, patternAtRandom(r, s))
		}
		best := l[Best(l, s)]
		for range 10 {
			r.Shuffle(len(l), func(i, j int) { l[i], l[j] = l[j], l[i] })
			checkBest(t, l, s, slices.Index(l, best))
		}
	}
}

// P19.4

// TestTheOrderIsTotal: what Less makes of strings, put in order by it, is that each of them precedes all behind it.
func TestTheOrderIsTotal(t *testing.T) {
	for _, all := range [][]string{rowsOf(4, "a", "b", "*", "**"), stringsOf("/a*", 5), slices.Concat(rowsOf(2, "%", "a", "*", "**"), stringsOf("/*\xff", 3))} {
		slices.Sort(all)
		all = slices.Compact(all)
		slices.SortFunc(all, func(p, q string) int {
			switch {
			case Less(p, q):
				return -1
			case Less(q, p):
				return 1
			}
			return 0
		})
		for i, p := range all {
			for j, q := range all {
				checkLess(t, p, q, i < j)
			}
		}
	}
}

func TestTheOrderIsTransitiveAtRandom(t *testing.T) {
	r := rand.New(rand.NewSource(5))
	held := 0
	for range 20000 {
		s := routeAtRandom(r, "ab", 5, 2)
		p, q, o := patternAtRandom(r, s), patternAtRandom(r, s), patternAtRandom(r, s)
		if r.Intn(3) == 0 {
			p, q, o = spoilt(r, p), spoilt(r, q), spoilt(r, o)
		}
		if Less(p, q) && Less(q, o) {
			held++
			checkLess(t, p, o, true)
		}
	}
	if held < 1000 {
		t.Fatalf("only %d of three followed each other", held)
	}
}

func TestWhatCoversDoesNotPrecede(t *testing.T) {
	all, covered := rowsOf(4, "a", "b", "*", "**"), 0
	for _, p := range all {
		for _, q := range all {
			if !match.Covers(p, q) {
				continue
			}
			covered++
			checkLess(t, p, q, false)
			checkLess(t, q, p, p != q)
		}
	}
	if covered < 1000 {
		t.Fatalf("only %d were covered", covered)
	}
}

// TestTheBestCoversNoOther: no other one that matches is covered by the best one, unless it is the same.
func TestTheBestCoversNoOther(t *testing.T) {
	r := rand.New(rand.NewSource(6))
	for range 5000 {
		s := routeAtRandom(r, "ab", 6, 1)
		var l []string
		for range 1 + r.Intn(6) {
			l = append(l, patternAtRandom(r, s))
		}
		best := l[Best(l, s)]
		for _, p := range l {
			if p != best && match.Covers(best, p) {
				t.Fatalf("the best of %q for %q is %q, which covers %q", l, s, best, p)
			}
		}
	}
}

// R3: arguments stay as they are, with the capacity behind their end.

func TestTheListStaysAsItIs(t *testing.T) {
	all := []string{"/**", "", "/a/**", "/*", "/a", "/b", "/a", "/spare", "/a"}
	whole := slices.Clone(all)
	checkBest(t, whole[:7:9], "/a", 4)
	if !slices.Equal(whole, all) {
		t.Fatalf("%q became %q", all, whole)
	}
	checkBest(t, whole[:4:9], "/a", 2)
	if !slices.Equal(whole, all) {
		t.Fatalf("%q became %q", all, whole)
	}
}

// R1 and the bound: great arguments

// checkEnds fails if the calls take far longer than they need.
func checkEnds(t *testing.T, calls func()) {
	t.Helper()
	start := time.Now()
	calls()
	if took := time.Since(start); took > 20*time.Second {
		t.Errorf("the calls took %s", took)
	}
}

func TestGreatStrings(t *testing.T) {
	const size = 1 << 24
	for _, s := range []string{strings.Repeat("a", size), strings.Repeat("/", size), "/" + strings.Repeat("a", size), strings.Repeat("/a", size/2), strings.Repeat("/*", size/2), "/" + strings.Repeat("*", size), strings.Repeat("\xff", size), "/**/" + strings.Repeat("b", size)} {
		checkEnds(t, func() {
			if Key(s) != "" || !Less(s, "/a") || Less("/a", s) || Less(s, s) || !Less(s, s+"a") || Less(s+"a", s) || Best([]string{s, "/**", s}, "/a") != 1 || Best([]string{"/**", s}, s) != -1 {
				t.Errorf("a string of %d bytes is taken for a pattern, or has another place", len(s))
			}
		})
	}
}

func TestGreatLists(t *testing.T) {
	const size = 1 << 16
	long := strings.Repeat("/abcdefg", 31) + "/abcdef"
	for s, others := range map[string][]string{"/a": {"/*", "/**", "/b", "", "/a/**"}, long: {"/**", long[:len(long)-7] + "/*", strings.Repeat("/*", 32)}} {
		for _, other := range others {
			checkEnds(t, func() {
				l := repeated(other, size)
				if got, want := Best(l, s), bestOf(l[:1], s); got != want {
					t.Errorf("the best of many %q for %q is %d, want %d", other, s, got, want)
				}
				l[size-1] = s
				if got := Best(l, s); got != size-1 {
					t.Errorf("the last one of many %q is the best for %q, and not %d", other, s, got)
				}
			})
		}
	}
}

// R4

func TestTheSameAnswerEachTime(t *testing.T) {
	r := rand.New(rand.NewSource(7))
	for range 200 {
		s := routeAtRandom(r, wordBytes, 30, 5)
		p, q := patternAtRandom(r, s), spoilt(r, patternAtRandom(r, s))
		l := []string{p, q, patternAtRandom(r, s), "/**"}
		for range 20 {
			checkKey(t, p, keyOf(p))
			checkPair(t, p, q)
			checkBest(t, slices.Clone(l), strings.Clone(s), bestOf(l, s))
		}
	}
}
