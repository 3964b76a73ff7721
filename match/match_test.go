package match

import (
	"math/rand"
	"regexp"
	"slices"
	"strings"
	"testing"
	"time"
	"unsafe"
)

// What the functions must answer, by the chapter's own words.

const oneWord = `[-a-zA-Z0-9_.~%]+`

var (
	routes   = regexp.MustCompile(`\A(/|(/` + oneWord + `){1,32})\z`)
	patterns = regexp.MustCompile(`\A(/|(/(` + oneWord + `|\*)){1,32}|(/(` + oneWord + `|\*)){0,31}/\*\*)\z`)
)

func routeOf(s string) bool {
	return sortOf(s).route
}

func patternOf(s string) bool {
	return sortOf(s).pattern
}

// sort is whether a string is a route, and whether it is a pattern.
type sort struct{ route, pattern bool }

// sorts are those of strings, once found.
var sorts = map[string]sort{}

func sortOf(s string) sort {
	found, ok := sorts[s]
	if !ok {
		if len(sorts) > 5000 {
			clear(sorts)
		}
		found = sort{len(s) <= 255 && routes.MatchString(s), len(s) <= 255 && patterns.MatchString(s)}
		sorts[s] = found
	}
	return found
}

// partsOf are the parts of a row.
func partsOf(s string) []string {
	if s == "/" {
		return nil
	}
	return strings.Split(s[1:], "/")
}

// matchers are the regular expressions of patterns, once made.
var matchers = map[string]*regexp.Regexp{}

// matcher is a regular expression for what the pattern p matches, where / has no text.
func matcher(p string) *regexp.Regexp {
	if made := matchers[p]; made != nil {
		return made
	}
	text := ""
	for _, part := range partsOf(p) {
		switch part {
		case "**":
			text += `(/[^/]+)*`
		case "*":
			text += `/[^/]+`
		default:
			text += "/" + regexp.QuoteMeta(part)
		}
	}
	made := regexp.MustCompile(`\A` + text + `\z`)
	if len(matchers) > 5000 {
		clear(matchers)
	}
	matchers[p] = made
	return made
}

func isOf(p, s string) bool {
	if !patternOf(p) || !routeOf(s) {
		return false
	}
	if s == "/" {
		s = ""
	}
	return matcher(p).MatchString(s)
}

func coversOf(p, q string) bool {
	return patternOf(p) && patternOf(q) && partsCover(partsOf(p), partsOf(q))
}

// partsCover goes from part to part.
func partsCover(p, q []string) bool {
	if len(p) == 0 {
		return len(q) == 0
	}
	if p[0] == "**" {
		return true
	}
	if len(q) == 0 || q[0] == "**" {
		return false
	}
	if p[0] != "*" && p[0] != q[0] {
		return false
	}
	return partsCover(p[1:], q[1:])
}

func meetsOf(p, q string) bool {
	return patternOf(p) && patternOf(q) && partsMeet(partsOf(p), partsOf(q))
}

// partsMeet goes from part to part.
func partsMeet(p, q []string) bool {
	if len(p) > 0 && p[0] == "**" || len(q) > 0 && q[0] == "**" {
		return true
	}
	if len(p) == 0 || len(q) == 0 {
		return len(p) == len(q)
	}
	if p[0] == q[0] || p[0] == "*" || q[0] == "*" {
		return partsMeet(p[1:], q[1:])
	}
	return false
}

// bothOf lays words over words of a, those of q first and then those of p.
func bothOf(p, q string) (string, bool) {
	if !meetsOf(p, q) {
		return "", false
	}
	var parts []string
	for _, pattern := range []string{q, p} {
		for i, part := range partsOf(pattern) {
			if part == "**" {
				continue
			}
			if i == len(parts) {
				parts = append(parts, "a")
			}
			if part != "*" {
				parts[i] = part
			}
		}
	}
	s := "/" + strings.Join(parts, "/")
	if len(s) > 255 {
		return "", false
	}
	return s, true
}

// Checks of one call each.

func checkIs(t *testing.T, p, s string, want bool) {
	t.Helper()
	if got := Is(p, s); got != want {
		t.Fatalf("Is(%q, %q) = %t, want %t", p, s, got, want)
	}
}

func checkCovers(t *testing.T, p, q string, want bool) {
	t.Helper()
	if got := Covers(p, q); got != want {
		t.Fatalf("Covers(%q, %q) = %t, want %t", p, q, got, want)
	}
}

func checkMeets(t *testing.T, p, q string, want bool) {
	t.Helper()
	if got := Meets(p, q); got != want {
		t.Fatalf("Meets(%q, %q) = %t, want %t", p, q, got, want)
	}
}

func checkBoth(t *testing.T, p, q, want string, meet bool) {
	t.Helper()
	if got, ok := Both(p, q); got != want || ok != meet {
		t.Fatalf("Both(%q, %q) = %q, %t, want %q, %t", p, q, got, ok, want, meet)
	}
}

// checkOrdered holds all calls on p and q, in this order, against the oracles.
func checkOrdered(t *testing.T, p, q string) {
	t.Helper()
	checkIs(t, p, q, isOf(p, q))
	checkCovers(t, p, q, coversOf(p, q))
	checkMeets(t, p, q, meetsOf(p, q))
	s, ok := bothOf(p, q)
	checkBoth(t, p, q, s, ok)
	if ok {
		checkIs(t, p, s, true)
		checkIs(t, q, s, true)
	}
}

// checkPair holds all calls on p and q, in both orders, against the oracles.
func checkPair(t *testing.T, p, q string) {
	t.Helper()
	checkOrdered(t, p, q)
	checkOrdered(t, q, p)
}

// What is tried.

const wordBytes = "abcdefghijklmnopqrstuvwxyzABCDEFGHIJKLMNOPQRSTUVWXYZ0123456789-_.~%"

// samples are patterns of each sort.
var samples = []string{
	"/", "/a", "/b", "/ab", "/a/b", "/a/b/c", "/A", "/a.b-c_d~e%20/0", "/.", "/..", "/%", "/%2A", "/-", "/~1", "/_",
	"/*", "/**", "/*/*", "/*/**", "/a/*", "/a/**", "/*/b", "/*/b/**", "/a/b/**", "/a/*/**", "/*/*/**", "/*/*/*", "/*/a/*", "/a/*/c", "/*/c/d", "/b/**", "/a/*/c/**",
}

// wrongs are strings that are no patterns.
var wrongs = []string{
	"", "a", "*", "**", "a/b", "//", "///", "/a/", "//a", "/a//b", "/*/", "/**/", "//*", "//**", "/***", "/**/*", "/**/**", "/**/a", "/a/**/b", "/a/***", "/a*", "/*a", "/a**", "/**a", "/*a*", "/a/*b",
	" /a", "/a ", "/a\n", "/a b", "/a?b", "/a#b", "/:a", "/{a}", "/a\\b", "\\a", "/\x00", "/a\x00", "/\xff", "/\u00e4", "/a,b", "/a+b", "/a@b",
	strings.Repeat("/a", 33), strings.Repeat("/*", 33), strings.Repeat("/a", 32) + "/**", "/" + strings.Repeat("a", 255), "/" + strings.Repeat("a", 252) + "/**",
}

// stringsOf are all strings of up to that many of the bytes.
func stringsOf(bytes string, size int) []string {
	all := []string{""}
	for from := 0; size > 0; size-- {
		to := len(all)
		for _, s := range all[from:to] {
			for i := range len(bytes) {
				all = append(all, s+bytes[i:i+1])
			}
		}
		from = to
	}
	return all
}

// rowsOf are all rows of up to that many of the parts.
func rowsOf(size int, parts ...string) []string {
	all := []string{""}
	for from := 0; size > 0; size-- {
		to := len(all)
		for _, s := range all[from:to] {
			for _, part := range parts {
				all = append(all, s+"/"+part)
			}
		}
		from = to
	}
	all[0] = "/"
	return all
}

// withRests are the rows, and each of them with a ** behind it.
func withRests(rows []string) []string {
	all := slices.Clone(rows)
	for _, s := range rows {
		all = append(all, joined(append(partsOf(s), "**")))
	}
	return all
}

// joined is the row of the parts.
func joined(parts []string) string {
	return "/" + strings.Join(parts, "/")
}

// repeated is a list of that many times the part.
func repeated(part string, count int) []string {
	return slices.Repeat([]string{part}, count)
}

// stringAtRandom is a string of the bytes, in memory of its own.
func stringAtRandom(r *rand.Rand, bytes string, size int) string {
	s := make([]byte, size)
	for i := range s {
		s[i] = bytes[r.Intn(len(bytes))]
	}
	return string(s)
}

// routeAtRandom has up to most parts, of up to size of the bytes.
func routeAtRandom(r *rand.Rand, bytes string, most, size int) string {
	parts := make([]string, r.Intn(most+1))
	for i := range parts {
		parts[i] = stringAtRandom(r, bytes, 1+r.Intn(size))
	}
	return joined(parts)
}

// patternAtRandom matches the route s, if it is a pattern.
func patternAtRandom(r *rand.Rand, s string) string {
	parts := partsOf(s)
	for i := range parts {
		if r.Intn(3) == 0 {
			parts[i] = "*"
		}
	}
	if r.Intn(3) == 0 {
		parts = append(parts[:r.Intn(len(parts)+1)], "**")
	}
	return joined(parts)
}

// spoilt is s with one byte of any sort in it, put in, left out, or instead of another.
func spoilt(r *rand.Rand, s string) string {
	at := r.Intn(len(s) + 1)
	b := stringAtRandom(r, "/*a\x00 \xff"+string([]byte{byte(r.Intn(256))}), 1)
	behind := s[at:]
	if behind != "" && r.Intn(2) == 0 {
		behind = behind[1:]
	}
	if r.Intn(4) == 0 {
		b = ""
	}
	return s[:at] + b + behind
}

// P18.1

func TestIsExamples(t *testing.T) {
	for p, routes := range map[string][]string{
		"/":           {"/"},
		"/**":         {"/", "/a", "/a/b", "/a/b/c/d", "/.", "/%2A"},
		"/*":          {"/a", "/b", "/abc", "/%"},
		"/a":          {"/a"},
		"/a/*":        {"/a/b", "/a/a", "/a/c"},
		"/a/**":       {"/a", "/a/b", "/a/b/c"},
		"/*/b":        {"/a/b", "/b/b"},
		"/a/*/c":      {"/a/b/c", "/a/c/c"},
		"/*/*":        {"/a/b", "/b/a"},
		"/a/*/**":     {"/a/b", "/a/b/c", "/a/b/c/d"},
		"/*/b/**":     {"/a/b", "/c/b", "/b/b/b"},
		"/a.b/~/_/-%": {"/a.b/~/_/-%"},
	} {
		for _, s := range routes {
			checkIs(t, p, s, true)
		}
	}
	for p, routes := range map[string][]string{
		"/":       {"/a", "/a/b"},
		"/*":      {"/", "/a/b"},
		"/a":      {"/", "/b", "/ab", "/A", "/a/a", "/a/b"},
		"/ab":     {"/a", "/abc", "/b"},
		"/a/*":    {"/", "/a", "/b/b", "/a/b/c"},
		"/a/**":   {"/", "/b", "/ab", "/b/a"},
		"/*/b":    {"/b", "/a/c", "/a/b/b", "/b/a"},
		"/a/*/**": {"/a", "/", "/b/b", "/b"},
		"/*/b/**": {"/", "/a", "/b", "/b/a", "/a/a/b"},
		"/a.b":    {"/aab", "/a/b"},
	} {
		for _, s := range routes {
			checkIs(t, p, s, false)
		}
	}
}

// TestIsOfPatternsAsRoutes: a pattern that is no route is matched by none, not even by itself.
func TestIsOfPatternsAsRoutes(t *testing.T) {
	for _, p := range samples {
		for _, q := range samples {
			checkIs(t, p, q, isOf(p, q))
			if strings.Contains(q, "*") {
				checkIs(t, p, q, false)
			}
		}
	}
}

func TestIsOfAllShortPatternsAndRoutes(t *testing.T) {
	routes := rowsOf(5, "a", "b", "c")
	for _, p := range withRests(rowsOf(4, "a", "b", "*")) {
		for _, s := range routes {
			checkIs(t, p, s, isOf(p, s))
		}
	}
}

// P18.2

func TestCoversExamples(t *testing.T) {
	for p, others := range map[string][]string{
		"/":       {"/"},
		"/**":     {"/", "/a", "/*", "/**", "/a/**", "/*/**", "/a/b", "/*/b/**"},
		"/*":      {"/a", "/b", "/*"},
		"/a":      {"/a"},
		"/a/*":    {"/a/*", "/a/b"},
		"/a/**":   {"/a", "/a/b", "/a/*", "/a/**", "/a/*/**", "/a/b/**", "/a/b/c/d"},
		"/*/b":    {"/*/b", "/a/b"},
		"/*/**":   {"/*/**", "/a/**", "/a", "/*", "/*/*", "/a/b/**"},
		"/*/b/**": {"/a/b", "/*/b", "/*/b/c", "/*/b/**", "/a/b/*/**"},
	} {
		for _, q := range others {
			checkCovers(t, p, q, true)
		}
	}
	for p, others := range map[string][]string{
		"/":       {"/a", "/*", "/**"},
		"/*":      {"/", "/**", "/*/*", "/*/**", "/a/**", "/a/b"},
		"/a":      {"/", "/*", "/**", "/a/**", "/a/*", "/a/b", "/b"},
		"/a/*":    {"/a", "/a/**", "/*/*", "/*/b", "/a/*/**", "/a/b/c"},
		"/a/**":   {"/", "/**", "/*", "/*/**", "/*/a", "/b", "/b/**"},
		"/*/b":    {"/*/*", "/a/*", "/*/**", "/*/b/**", "/b"},
		"/*/**":   {"/", "/**"},
		"/*/b/**": {"/*/**", "/*/*", "/*/*/**", "/a", "/*", "/**", "/b/**"},
	} {
		for _, q := range others {
			checkCovers(t, p, q, false)
		}
	}
}

// P18.3

func TestMeetsExamples(t *testing.T) {
	for _, pair := range [][2]string{
		{"/", "/"}, {"/", "/**"}, {"/**", "/**"}, {"/**", "/a/b"}, {"/a", "/a"}, {"/a", "/*"}, {"/*", "/*"}, {"/a", "/a/**"}, {"/*", "/a/**"}, {"/*/b", "/a/*"},
		{"/a/**", "/*/c/d"}, {"/a/**", "/*/**"}, {"/a/b/**", "/a/**"}, {"/a/*/c", "/*/b/c"}, {"/*/*", "/a/b"}, {"/a/*/**", "/*/b"}, {"/*/b/**", "/a/**"},
	} {
		checkMeets(t, pair[0], pair[1], true)
		checkMeets(t, pair[1], pair[0], true)
	}
	for _, pair := range [][2]string{
		{"/a/b/**", "/a"}, {"/", "/a"}, {"/", "/*"}, {"/", "/*/**"}, {"/a", "/b"}, {"/a", "/A"}, {"/a", "/ab"}, {"/a", "/a/b"}, {"/a", "/a/*"}, {"/*", "/*/*"}, {"/a/**", "/b/**"},
		{"/a/**", "/b"}, {"/*/b", "/a/c"}, {"/*/b/**", "/*/c/**"}, {"/a/*/c", "/a/*/d"}, {"/*/*/**", "/a"}, {"/a/*/**", "/*"}, {"/a/b", "/a/*/c"},
	} {
		checkMeets(t, pair[0], pair[1], false)
		checkMeets(t, pair[1], pair[0], false)
	}
}

// P18.4

func TestBothExamples(t *testing.T) {
	for _, row := range [][3]string{
		{"/**", "/", "/"}, {"/", "/", "/"}, {"/**", "/**", "/"}, {"/*/**", "/**", "/a"}, {"/*", "/*", "/a"}, {"/*", "/**", "/a"}, {"/*", "/b", "/b"}, {"/b", "/b", "/b"}, {"/*/b", "/a/*", "/a/b"},
		{"/*/b", "/c/*", "/c/b"}, {"/a/**", "/*/c/d", "/a/c/d"}, {"/b/**", "/**", "/b"}, {"/b/**", "/*/*", "/b/a"}, {"/b/**", "/b", "/b"}, {"/b/*/**", "/*/**", "/b/a"}, {"/*/*/*", "/**", "/a/a/a"},
		{"/*/c/**", "/b/**", "/b/c"}, {"/b/**", "/*/*/d/**", "/b/a/d"}, {"/%/*", "/*/.", "/%/."},
	} {
		checkBoth(t, row[0], row[1], row[2], true)
		checkBoth(t, row[1], row[0], row[2], true)
	}
	for _, pair := range [][2]string{{"/a", "/b"}, {"/a/b/**", "/a"}, {"/", "/*"}, {"/a", "/a/b"}, {"/*", "/*/*"}, {"/a/**", "/b/**"}, {"/*/b", "/a/c"}, {"/*/*/**", "/a"}} {
		checkBoth(t, pair[0], pair[1], "", false)
		checkBoth(t, pair[1], pair[0], "", false)
	}
}

// TestBothOfEachLength: two patterns may be short enough, and what they both match may be not.
func TestBothOfEachLength(t *testing.T) {
	long := 0
	for size := 1; size <= 251; size++ {
		first := strings.Repeat("b", size)
		for _, other := range []int{1, 2, 251 - size, 252 - size, 253 - size, 254 - size, 255 - size, 251} {
			if other < 1 || other > 251 {
				continue
			}
			second := strings.Repeat("c", other)
			fits := size+other+2 <= 255
			if !fits {
				long++
			}
			for _, pair := range [][2]string{{"/" + first + "/*", "/*/" + second}, {"/" + first + "/**", "/*/" + second}, {"/" + first + "/**", "/*/" + second + "/**"}} {
				if !patternOf(pair[0]) || !patternOf(pair[1]) {
					continue
				}
				want := ""
				if fits {
					want = "/" + first + "/" + second
				}
				checkBoth(t, pair[0], pair[1], want, fits)
				checkBoth(t, pair[1], pair[0], want, fits)
				checkMeets(t, pair[0], pair[1], true)
				checkPair(t, pair[0], pair[1])
			}
		}
	}
	if long < 400 {
		t.Fatalf("only %d pairs were too long", long)
	}
}

// TestBothOfEachLengthWithAnyParts: a part for which neither has a word adds one byte, as its star does.
func TestBothOfEachLengthWithAnyParts(t *testing.T) {
	for count := 1; count <= 31; count++ {
		stars := strings.Repeat("/*", count)
		for size := 240 - 2*count; size <= 254-2*count; size++ {
			word := strings.Repeat("b", size)
			want := strings.Repeat("/a", count) + "/" + word
			checkBoth(t, stars+"/"+word, "/**", want, true)
			checkBoth(t, "/**", stars+"/"+word, want, true)
			checkPair(t, stars+"/"+word, stars+"/**")
			for _, more := range []int{0, 1, 2, 3} {
				other := strings.Repeat("c", 1+more)
				fits := len(want)+more <= 255
				whole := "/" + other + strings.Repeat("/a", count-1) + "/" + word
				if !fits {
					whole = ""
				}
				checkBoth(t, stars+"/"+word, "/"+other+"/**", whole, fits)
				checkBoth(t, "/"+other+"/**", stars+"/"+word, whole, fits)
			}
		}
	}
}

// P18.1 to P18.4: what they have in common

func TestSamples(t *testing.T) {
	for _, p := range samples {
		if !patternOf(p) {
			t.Fatalf("%q is no pattern", p)
		}
		for _, q := range samples {
			checkOrdered(t, p, q)
		}
	}
}

func TestWrongs(t *testing.T) {
	for _, wrong := range wrongs {
		if patternOf(wrong) {
			t.Fatalf("%q is a pattern", wrong)
		}
		for _, other := range slices.Concat(samples, wrongs, []string{"/*a", "/" + strings.Repeat("*/", 31) + "**"}) {
			for _, pair := range [][2]string{{wrong, other}, {other, wrong}} {
				checkIs(t, pair[0], pair[1], false)
				checkCovers(t, pair[0], pair[1], false)
				checkMeets(t, pair[0], pair[1], false)
				checkBoth(t, pair[0], pair[1], "", false)
			}
		}
	}
}

func TestAllShortPatterns(t *testing.T) {
	all := withRests(rowsOf(4, "a", "b", "*"))
	for _, p := range all {
		for _, q := range all {
			checkOrdered(t, p, q)
		}
	}
}

func TestAllShortStrings(t *testing.T) {
	for _, bytes := range []string{"/a*", "/ab"} {
		all := stringsOf(bytes, 5)
		for _, p := range all {
			for _, q := range all {
				checkOrdered(t, p, q)
			}
		}
	}
	all := stringsOf("/a*b\x00", 3)
	for _, p := range all {
		for _, q := range all {
			checkOrdered(t, p, q)
		}
	}
}

// TestEachByte: each byte in a part, against a star, itself and each other one.
func TestEachByte(t *testing.T) {
	for b := range 256 {
		s := "/" + string([]byte{byte(b)})
		in := strings.IndexByte(wordBytes, byte(b)) >= 0
		checkIs(t, "/*", s, in)
		checkIs(t, "/**", s, in)
		checkIs(t, s, s, in)
		checkMeets(t, s, "/*", in || b == '*')
		checkCovers(t, "/*", s, in || b == '*')
		checkCovers(t, s, "/a", b == 'a' || b == '*')
		for other := range 256 {
			o := "/" + string([]byte{byte(other)})
			checkOrdered(t, s, o)
			checkIs(t, s, o, b == other && in || b == '*' && strings.IndexByte(wordBytes, byte(other)) >= 0)
		}
	}
}

// TestWordsAreTheSameWithAllTheirBytes: another byte at any place makes another word, and so do more and fewer.
func TestWordsAreTheSameWithAllTheirBytes(t *testing.T) {
	for _, size := range []int{1, 2, 3, 7, 8, 9, 31, 32, 33, 63, 64, 65, 127, 128, 251, 252} {
		word := "/" + strings.Repeat("a", size)
		checkPair(t, word, word)
		checkPair(t, word, word+"a")
		checkPair(t, word+"/b", word+"b")
		checkIs(t, word, word, true)
		checkIs(t, word, word+"a", false)
		checkIs(t, word+"a", word, false)
		checkMeets(t, word, word+"a", false)
		checkCovers(t, word, word+"a", false)
		checkCovers(t, word+"a", word, false)
		for at := 1; at <= size; at++ {
			for _, b := range []string{"A", "b", "%", "."} {
				other := word[:at] + b + word[at+1:]
				checkPair(t, word, other)
				checkIs(t, word, other, false)
				checkCovers(t, word, other, false)
				checkMeets(t, word, other, false)
				checkBoth(t, word, other, "", false)
			}
		}
	}
}

// TestEachNumberOfParts: of both, with and without **.
func TestEachNumberOfParts(t *testing.T) {
	for count := range 35 {
		for other := range 35 {
			for _, part := range []string{"a", "*", "b"} {
				for _, behind := range []string{"a", "*"} {
					p, q := joined(repeated(part, count)), joined(repeated(behind, other))
					pRest, qRest := joined(append(repeated(part, count), "**")), joined(append(repeated(behind, other), "**"))
					checkPair(t, p, q)
					checkPair(t, pRest, q)
					checkPair(t, p, qRest)
					checkPair(t, pRest, qRest)
				}
			}
			s := joined(repeated("a", other))
			checkIs(t, joined(repeated("a", count)), s, count == other && count <= 32)
			checkIs(t, joined(repeated("*", count)), s, count == other && count <= 32)
			checkIs(t, joined(append(repeated("*", count), "**")), s, count <= other && count <= 31 && other <= 32)
		}
	}
}

// TestEachOtherPart: one part of many is another one, or a star, in one or in both.
func TestEachOtherPart(t *testing.T) {
	for _, count := range []int{1, 2, 3, 4, 16, 31, 32} {
		for at := range count {
			for i, part := range []string{"b", "*", "ab"} {
				parts := repeated("a", count)
				parts[at] = part
				plain, other := joined(repeated("a", count)), joined(parts)
				checkPair(t, plain, other)
				checkIs(t, other, plain, i == 1)
				checkCovers(t, plain, other, false)
				checkMeets(t, plain, other, i == 1)
				checkPair(t, joined(append(parts[:at:at], "**")), plain)
				checkPair(t, joined(append(parts[:at:at], "**")), other)
				checkPair(t, joined(append(parts[:at+1:at+1], "**")), plain)
				for second := range count {
					more := repeated("*", count)
					more[second] = "c"
					checkPair(t, other, joined(more))
					checkPair(t, joined(append(more[:second:second], "**")), other)
					checkPair(t, joined(append(more[:second+1:second+1], "**")), other)
				}
			}
		}
	}
}

// TestEachLength: of patterns and routes, as far as they may be long.
func TestEachLength(t *testing.T) {
	for size := 1; size <= 260; size++ {
		s := "/" + strings.Repeat("a", size-1)
		checkPair(t, s, "/*")
		checkPair(t, s, "/**")
		checkPair(t, s, s)
		checkIs(t, "/**", s, size <= 255)
		checkMeets(t, s, "/**", size <= 255)
		checkCovers(t, "/**", s, size <= 255)
		want := ""
		if size <= 255 {
			want = s
		}
		checkBoth(t, s, "/**", want, size <= 255)
		checkPair(t, s+"/**", "/**")
		checkPair(t, s+"/*", "/*/**")
		checkPair(t, s+"/*", s+"/**")
	}
}

func TestAtRandom(t *testing.T) {
	r := rand.New(rand.NewSource(1))
	meet, cover := 0, 0
	for range 20000 {
		bytes, most, size := wordBytes, 34, 8
		if r.Intn(2) == 0 {
			bytes, most, size = "ab", 6, 1
		}
		s := routeAtRandom(r, bytes, most, size)
		p, q := patternAtRandom(r, s), patternAtRandom(r, s)
		if r.Intn(4) == 0 {
			q = patternAtRandom(r, routeAtRandom(r, bytes, most, size))
		}
		checkPair(t, p, q)
		checkPair(t, p, s)
		checkPair(t, spoilt(r, p), q)
		checkPair(t, p, spoilt(r, s))
		checkIs(t, p, s, patternOf(p) && routeOf(s))
		if Meets(p, q) {
			meet++
		}
		if Covers(p, q) {
			cover++
		}
	}
	if meet < 5000 || cover < 1500 {
		t.Fatalf("only %d pairs met, and %d covered", meet, cover)
	}
}

// TestBothAtRandom: long words of both, of which the route is now and then too long.
func TestBothAtRandom(t *testing.T) {
	r := rand.New(rand.NewSource(2))
	long := 0
	for range 20000 {
		p, q := "", ""
		for range 2 + r.Intn(8) {
			word := stringAtRandom(r, wordBytes, 1+r.Intn(80))
			if r.Intn(2) == 0 {
				p, q = p+"/"+word, q+"/*"
			} else {
				p, q = p+"/*", q+"/"+word
			}
		}
		checkPair(t, p, q)
		if _, ok := Both(p, q); !ok && patternOf(p) && patternOf(q) {
			long++
		}
	}
	if long < 250 {
		t.Fatalf("only %d pairs were too long", long)
	}
}

// P18.5

// TestWhatIsCoveredIsMatched holds the answers against each other on all short patterns, and against the routes that they match: c stands for all words that no pattern has.
func TestWhatIsCoveredIsMatched(t *testing.T) {
	all, tried := withRests(rowsOf(3, "a", "b", "*")), rowsOf(4, "a", "b", "c")
	matched := map[string][]bool{}
	for _, p := range all {
		for _, s := range tried {
			matched[p] = append(matched[p], Is(p, s))
		}
	}
	for _, p := range all {
		for _, q := range all {
			meet, cover := false, true
			for i, is := range matched[q] {
				meet = meet || is && matched[p][i]
				cover = cover && (!is || matched[p][i])
			}
			checkCovers(t, p, q, cover)
			checkMeets(t, p, q, meet)
			s, ok := Both(p, q)
			if ok != meet {
				t.Fatalf("Both(%q, %q) = %q, %t, and they meet: %t", p, q, s, ok, meet)
			}
			if ok && (!Is(p, s) || !Is(q, s)) {
				t.Fatalf("Both(%q, %q) = %q is not matched by both", p, q, s)
			}
		}
	}
}

func TestConsequencesAtRandom(t *testing.T) {
	r := rand.New(rand.NewSource(3))
	covered, met := 0, 0
	for range 20000 {
		s := routeAtRandom(r, "ab", 5, 1)
		p, q := patternAtRandom(r, s), patternAtRandom(r, s)
		if !Is(p, s) || !Is(q, s) || !Meets(p, q) || !Meets(q, p) {
			t.Fatalf("%q and %q are made to match %q, and do not, or do not meet", p, q, s)
		}
		other := routeAtRandom(r, "ab", 5, 1)
		if Covers(p, q) && Is(q, other) {
			covered++
			checkIs(t, p, other, true)
		}
		if Is(p, other) && Is(q, other) {
			met++
		}
		both, ok := Both(p, q)
		if !ok || !Is(p, both) || !Is(q, both) {
			t.Fatalf("Both(%q, %q) = %q, %t, which they do not match", p, q, both, ok)
		}
	}
	if covered < 500 || met < 500 {
		t.Fatalf("only %d covered, and %d matched", covered, met)
	}
}

// TestLongestPatterns: those of 32 parts, and of 255 bytes.
func TestLongestPatterns(t *testing.T) {
	words := strings.Repeat("/abcdefg", 31)
	full := words + "/abcdef"
	if len(full) != 255 {
		t.Fatalf("%d bytes", len(full))
	}
	stars := strings.Repeat("/*", 32)
	rest := strings.Repeat("/*", 31) + "/**"
	for _, p := range []string{full, stars, rest, "/**", words + "/*", words + "/**"} {
		checkIs(t, p, full, true)
		checkCovers(t, p, full, true)
		checkMeets(t, p, full, true)
		checkBoth(t, p, full, full, true)
		checkBoth(t, full, p, full, true)
	}
	checkIs(t, rest, words, true)
	checkIs(t, stars, words, false)
	checkIs(t, "/**", full+"h", false)
	checkCovers(t, "/**", full+"h", false)
	checkBoth(t, stars, "/**", strings.Repeat("/a", 32), true)
	checkBoth(t, rest, "/**", strings.Repeat("/a", 31), true)
	checkBoth(t, rest, stars, strings.Repeat("/a", 32), true)
	checkBoth(t, words+"/**", stars, words+"/a", true)
}

// R3: new memory.

// within tells whether the bytes of part are some of s, in the same memory.
func within(part, s string) bool {
	if part == "" || s == "" {
		return false
	}
	at, from := uintptr(unsafe.Pointer(unsafe.StringData(part))), uintptr(unsafe.Pointer(unsafe.StringData(s)))
	return at < from+uintptr(len(s)) && from < at+uintptr(len(part))
}

func TestBothSharesNoMemoryWithItsPatterns(t *testing.T) {
	for _, p := range samples {
		for _, q := range samples {
			p, q := strings.Clone(p), strings.Clone(q)
			if s, _ := Both(p, q); within(s, p) || within(s, q) {
				t.Fatalf("Both(%q, %q) = %q is in their memory", p, q, s)
			}
		}
	}
}

// R1 and the bound: great arguments

// checkEnds fails if the calls take far longer than they need.
func checkEnds(t *testing.T, calls func()) {
	t.Helper()
	start := time.Now()
	calls()
	if took := time.Since(start); took > 20*time.Second {
		t.Errorf("the calls took %s", took)
	}
}

func TestGreatStrings(t *testing.T) {
	const size = 1 << 24
	for _, s := range []string{strings.Repeat("a", size), strings.Repeat("/", size), "/" + strings.Repeat("a", size), strings.Repeat("/a", size/2), strings.Repeat("/*", size/2), "/" + strings.Repeat("*", size), strings.Repeat("\xff", size), "/**/" + strings.Repeat("b", size)} {
		checkEnds(t, func() {
			for _, p := range []string{"/**", "/*", "/a", "/", "", s} {
				for _, pair := range [][2]string{{p, s}, {s, p}} {
					both, ok := Both(pair[0], pair[1])
					if ok || both != "" || Is(pair[0], pair[1]) || Covers(pair[0], pair[1]) || Meets(pair[0], pair[1]) {
						t.Errorf("a string of %d bytes is taken for a pattern", len(s))
					}
				}
			}
		})
	}
}

// R4

func TestTheSameAnswerEachTime(t *testing.T) {
	r := rand.New(rand.NewSource(4))
	for range 300 {
		s := routeAtRandom(r, wordBytes, 30, 5)
		p, q := patternAtRandom(r, s), spoilt(r, patternAtRandom(r, s))
		for range 20 {
			checkPair(t, p, q)
			checkPair(t, p, s)
		}
	}
}
