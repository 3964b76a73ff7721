package lex

import (
	"bytes"
	"encoding/json"
	"math"
	"math/big"
	"math/rand"
	"reflect"
	"regexp"
	"strconv"
	"strings"
	"testing"
	"time"
	"unsafe"

	"stoplog/api"
	"stoplog/quote"
)

// The forms of the chapter, each at the begin of what is left.
var (
	blankForm  = regexp.MustCompile(`^[\x20\x09\x0a\x0d]*`)
	minusForm  = regexp.MustCompile(`^-(?:[^0-9]|$)`)
	realForm   = regexp.MustCompile(`^-?(?:0|[1-9][0-9]*)[.eE]`)
	numberForm = regexp.MustCompile(`^-?(?:0|[1-9][0-9]*)`)
)

// fixed are the tokens that are always written the same way, with the chapter's numbers of their kinds.
var fixed = map[string]int{"{": 1, "}": 2, "[": 3, "]": 4, ":": 5, ",": 6, "true": 9, "false": 10, "null": 11}

// nextOf is what Next must answer, by the chapter's own words.
func nextOf(s string, at int) (api.Token, api.Errno) {
	switch {
	case at < 0:
		at = 0
	case at > len(s):
		at = len(s)
	}
	at += len(blankForm.FindString(s[at:]))
	rest := s[at:]
	switch {
	case rest == "":
		return api.Token{Kind: 0, At: at}, api.OK
	case rest[0] == '"':
		value, end, e := quote.Take(s, at)
		if e != api.OK {
			return api.Token{At: end}, e
		}
		return api.Token{Kind: 7, At: at, Size: end - at, S: value}, api.OK
	case minusForm.MatchString(rest):
		return api.Token{At: at}, api.ErrForm
	case realForm.MatchString(rest):
		return api.Token{At: at}, api.ErrReal
	case numberForm.MatchString(rest):
		return numberOf(numberForm.FindString(rest), at)
	}
	for word, kind := range fixed {
		if strings.HasPrefix(rest, word) {
			return api.Token{Kind: kind, At: at, Size: len(word)}, api.OK
		}
	}
	return api.Token{At: at}, api.ErrForm
}

func numberOf(digits string, at int) (api.Token, api.Errno) {
	n, ok := new(big.Int).SetString(digits, 10)
	if !ok {
		panic(digits)
	}
	if !n.IsInt64() {
		return api.Token{At: at}, api.ErrOver
	}
	return api.Token{Kind: 8, At: at, Size: len(digits), N: n.Int64()}, api.OK
}

// tokensOf is what Tokens must answer.
func tokensOf(s string) ([]api.Token, int, api.Errno) {
	var all []api.Token
	for at := 0; ; {
		token, e := nextOf(s, at)
		if e != api.OK {
			return nil, token.At, e
		}
		all = append(all, token)
		if token.Kind == 0 {
			return all, 0, api.OK
		}
		at = token.At + token.Size
	}
}

func sameTokens(a, b []api.Token) bool {
	return len(a) == len(b) && (len(a) == 0 || reflect.DeepEqual(a, b))
}

func checkNext(t *testing.T, s string, at int) {
	t.Helper()
	token, e := Next(s, at)
	want, f := nextOf(s, at)
	if token != want || e != f {
		t.Fatalf("Next(%q, %d) = %+v, %d, want %+v, %d", s, at, token, e, want, f)
	}
}

func checkTokens(t *testing.T, s string) {
	t.Helper()
	all, at, e := Tokens(s)
	want, off, f := tokensOf(s)
	if !sameTokens(all, want) || at != off || e != f {
		t.Fatalf("Tokens(%q) = %+v, %d, %d, want %+v, %d, %d", s, all, at, e, want, off, f)
	}
}

func checkAll(t *testing.T, s string) {
	t.Helper()
	for at := -1; at <= len(s)+1; at++ {
		checkNext(t, s, at)
	}
	checkTokens(t, s)
}

// eachString calls visit with every string of at most size of the letters.
func eachString(letters []string, size int, visit func(string)) {
	var grow func(s string, left int)
	grow = func(s string, left int) {
		visit(s)
		if left == 0 {
			return
		}
		for _, letter := range letters {
			grow(s+letter, left-1)
		}
	}
	grow("", size)
}

// shares tells whether two strings that are not empty lie in the same memory.
func shares(a, b string) bool {
	if a == "" || b == "" {
		return false
	}
	x, y := uintptr(unsafe.Pointer(unsafe.StringData(a))), uintptr(unsafe.Pointer(unsafe.StringData(b)))
	return x < y+uintptr(len(b)) && y < x+uintptr(len(a))
}

// P10.1

func TestNextByCase(t *testing.T) {
	cases := []struct {
		s    string
		at   int
		want api.Token
		e    api.Errno
	}{
		{"", 0, api.Token{}, api.OK},
		{" \t\n\r", 0, api.Token{At: 4}, api.OK},
		{"{", 0, api.Token{Kind: api.TOpen, Size: 1}, api.OK},
		{"}", 0, api.Token{Kind: api.TClose, Size: 1}, api.OK},
		{"[", 0, api.Token{Kind: api.TBegin, Size: 1}, api.OK},
		{"]", 0, api.Token{Kind: api.TEnds, Size: 1}, api.OK},
		{":", 0, api.Token{Kind: api.TColon, Size: 1}, api.OK},
		{",", 0, api.Token{Kind: api.TComma, Size: 1}, api.OK},
		{`""`, 0, api.Token{Kind: api.TText, Size: 2}, api.OK},
		{`  "a\n\u00e9"x`, 0, api.Token{Kind: api.TText, At: 2, Size: 11, S: "a\né"}, api.OK},
		{"true", 0, api.Token{Kind: api.TTrue, Size: 4}, api.OK},
		{"false", 0, api.Token{Kind: api.TFalse, Size: 5}, api.OK},
		{"null", 0, api.Token{Kind: api.TNull, Size: 4}, api.OK},
		{"true", 1, api.Token{At: 1}, api.ErrForm},
		{"0", 0, api.Token{Kind: api.TNumber, Size: 1}, api.OK},
		{"-0", 0, api.Token{Kind: api.TNumber, Size: 2}, api.OK},
		{"-0", 1, api.Token{Kind: api.TNumber, At: 1, Size: 1}, api.OK},
		{" 120]", 0, api.Token{Kind: api.TNumber, At: 1, Size: 3, N: 120}, api.OK},
		{"-12-3", 0, api.Token{Kind: api.TNumber, Size: 3, N: -12}, api.OK},
		// a word or a number may be followed by anything
		{"01", 0, api.Token{Kind: api.TNumber, Size: 1}, api.OK},
		{"01", 1, api.Token{Kind: api.TNumber, At: 1, Size: 1, N: 1}, api.OK},
		{"-01", 0, api.Token{Kind: api.TNumber, Size: 2}, api.OK},
		{"01.5", 0, api.Token{Kind: api.TNumber, Size: 1}, api.OK},
		{"1x", 0, api.Token{Kind: api.TNumber, Size: 1, N: 1}, api.OK},
		{"1_000", 0, api.Token{Kind: api.TNumber, Size: 1, N: 1}, api.OK},
		{"0x10", 0, api.Token{Kind: api.TNumber, Size: 1}, api.OK},
		{"truefalse", 0, api.Token{Kind: api.TTrue, Size: 4}, api.OK},
		{"truex", 0, api.Token{Kind: api.TTrue, Size: 4}, api.OK},
		{`null"`, 0, api.Token{Kind: api.TNull, Size: 4}, api.OK},
		// numbers at the limits
		{"9223372036854775807", 0, api.Token{Kind: api.TNumber, Size: 19, N: math.MaxInt64}, api.OK},
		{"-9223372036854775808", 0, api.Token{Kind: api.TNumber, Size: 20, N: math.MinInt64}, api.OK},
		{"  9223372036854775808", 0, api.Token{At: 2}, api.ErrOver},
		{" -9223372036854775809", 0, api.Token{At: 1}, api.ErrOver},
		{"18446744073709551616", 0, api.Token{}, api.ErrOver},
		// faults of numbers, in their order
		{"-", 0, api.Token{}, api.ErrForm},
		{" -x", 0, api.Token{At: 1}, api.ErrForm},
		{"--1", 0, api.Token{}, api.ErrForm},
		{"- 1", 0, api.Token{}, api.ErrForm},
		{"-.5", 0, api.Token{}, api.ErrForm},
		{"-e5", 0, api.Token{}, api.ErrForm},
		{" 1.5", 0, api.Token{At: 1}, api.ErrReal},
		{"1.", 0, api.Token{}, api.ErrReal},
		{"0e", 0, api.Token{}, api.ErrReal},
		{"-0E1", 0, api.Token{}, api.ErrReal},
		{"12e", 0, api.Token{}, api.ErrReal},
		{"9223372036854775808.0", 0, api.Token{}, api.ErrReal},
		{"-9223372036854775809e", 0, api.Token{}, api.ErrReal},
		{"9223372036854775808 .", 0, api.Token{}, api.ErrOver},
		// faults of quoted strings
		{` "a`, 0, api.Token{At: 3}, api.ErrShort},
		{` "ab\x"`, 0, api.Token{At: 4}, api.ErrForm},
		{"\"a\n\"", 0, api.Token{At: 2}, api.ErrForm},
		{"\"\xff\"", 0, api.Token{At: 1}, api.ErrText},
		{`"abc\ud800"`, 0, api.Token{At: 4}, api.ErrText},
		// anything else
		{" x", 0, api.Token{At: 1}, api.ErrForm},
		{"tru", 0, api.Token{}, api.ErrForm},
		{" True", 0, api.Token{At: 1}, api.ErrForm},
		{"nul l", 0, api.Token{}, api.ErrForm},
		{"fals", 0, api.Token{}, api.ErrForm},
		{"+1", 0, api.Token{}, api.ErrForm},
		{".5", 0, api.Token{}, api.ErrForm},
		{"e", 0, api.Token{}, api.ErrForm},
		{"'a'", 0, api.Token{}, api.ErrForm},
		{"\x00", 0, api.Token{}, api.ErrForm},
		{" \xff", 0, api.Token{At: 1}, api.ErrForm},
		// other blanks than the four are none
		{"\v1", 0, api.Token{}, api.ErrForm},
		{"\f1", 0, api.Token{}, api.ErrForm},
		{"\u00a01", 0, api.Token{}, api.ErrForm},
		{"\ufeff1", 0, api.Token{}, api.ErrForm},
		// the offset
		{"a", 99, api.Token{At: 1}, api.OK},
		{"1", -5, api.Token{Kind: api.TNumber, Size: 1, N: 1}, api.OK},
		{"1", math.MinInt, api.Token{Kind: api.TNumber, Size: 1, N: 1}, api.OK},
		{"12", 1, api.Token{Kind: api.TNumber, At: 1, Size: 1, N: 2}, api.OK},
		{"12", math.MaxInt, api.Token{At: 2}, api.OK},
		{"", math.MaxInt, api.Token{}, api.OK},
		{"", math.MinInt, api.Token{}, api.OK},
		{"x ", 1, api.Token{At: 2}, api.OK},
	}
	for _, c := range cases {
		token, e := Next(c.s, c.at)
		if token != c.want || e != c.e {
			t.Errorf("Next(%q, %d) = %+v, %d, want %+v, %d", c.s, c.at, token, e, c.want, c.e)
		}
		checkNext(t, c.s, c.at)
	}
}

func TestKindsAreTheNumbersOfTheChapter(t *testing.T) {
	for s, kind := range map[string]int{"{": 1, "}": 2, "[": 3, "]": 4, ":": 5, ",": 6, `""`: 7, "1": 8, "true": 9, "false": 10, "null": 11, "": 0} {
		if token, e := Next(s, 0); token.Kind != kind || token.Size != len(s) || e != api.OK {
			t.Errorf("Next(%q, 0) = %+v, %d, want kind %d of all bytes", s, token, e, kind)
		}
	}
}

func TestEveryPairOfBytes(t *testing.T) {
	for i := range 256 {
		checkAll(t, string([]byte{byte(i)}))
		for k := range 256 {
			checkNext(t, string([]byte{byte(i), byte(k)}), 0)
			checkTokens(t, string([]byte{byte(i), byte(k)}))
		}
	}
}

func TestEveryByteBehindATokenAndAhead(t *testing.T) {
	for _, s := range []string{"{", "}", "[", "]", ":", ",", `"a"`, "0", "-0", "7", "-12", "true", "false", "null", "9223372036854775807", "9223372036854775808", "-"} {
		for i := range 256 {
			b := string([]byte{byte(i)})
			checkAll(t, s+b)
			checkAll(t, b+s)
			checkAll(t, s+b+"1")
		}
	}
}

func TestEveryByteInAWord(t *testing.T) {
	for _, word := range []string{"true", "false", "null"} {
		for place := range len(word) {
			checkAll(t, word[:place])
			for i := range 256 {
				checkAll(t, " "+word[:place]+string([]byte{byte(i)})+word[place+1:]+" ")
			}
		}
		checkAll(t, strings.ToUpper(word))
		checkAll(t, word+word)
	}
}

func TestNumbersNearTheLimits(t *testing.T) {
	limit := new(big.Int).Lsh(big.NewInt(1), 63)
	for _, base := range []*big.Int{limit, new(big.Int).Neg(limit), new(big.Int).Lsh(limit, 1), big.NewInt(0), new(big.Int).Exp(big.NewInt(10), big.NewInt(18), nil), new(big.Int).Exp(big.NewInt(10), big.NewInt(19), nil)} {
		for d := int64(-20); d <= 20; d++ {
			n := new(big.Int).Add(base, big.NewInt(d)).String()
			for _, s := range []string{n, " " + n + ",", n + ".", n + "e", n + "E", n + "x", n + "0", "-" + n} {
				checkAll(t, s)
			}
		}
	}
}

func TestLongNumbers(t *testing.T) {
	for size := 1; size < 400; size++ {
		for _, digit := range []string{"0", "1", "9"} {
			s := strings.Repeat(digit, size)
			for _, tail := range []string{"", " ", ".", "e"} {
				checkNext(t, s+tail, 0)
				checkNext(t, "-"+s+tail, 0)
				checkTokens(t, s+tail)
			}
		}
	}
}

func TestNextOfRandomNumbers(t *testing.T) {
	random := rand.New(rand.NewSource(101))
	for range 20000 {
		n := int64(random.Uint64()) >> random.Intn(64)
		s := strconv.FormatInt(n, 10)
		lead := strings.Repeat(" ", random.Intn(3))
		want := api.Token{Kind: api.TNumber, At: len(lead), Size: len(s), N: n}
		if token, e := Next(lead+s+"]", 0); token != want || e != api.OK {
			t.Fatalf("Next(%q, 0) = %+v, %d, want %+v", lead+s+"]", token, e, want)
		}
	}
}

func TestNextOfQuotedStrings(t *testing.T) {
	random := rand.New(rand.NewSource(102))
	pieces := []string{`a`, `\n`, `\u0041`, `\ud83d\ude00`, `é`, `😀`, `\`, `\ud800`, "\n", "\xc3", `"`, `\"`, `\q`, `\u12`, ` `, `[1]`, `\\`}
	for range 30000 {
		s := strings.Repeat(" ", random.Intn(3)) + `"`
		for range random.Intn(6) {
			s += pieces[random.Intn(len(pieces))]
		}
		checkAll(t, s)
		checkAll(t, s+`"`)
		checkAll(t, s+`"1`)
	}
}

func TestAFaultHasOnlyItsOffset(t *testing.T) {
	for s, want := range map[string]int{`"abc`: 4, `"abc\q`: 4, "\"a\xff": 2, "-": 0, " 1.": 1, " 9223372036854775808": 1, "  nul": 2} {
		if token, e := Next(s, 0); token != (api.Token{At: want}) || e == api.OK {
			t.Errorf("Next(%q, 0) = %+v, %d, want only the offset %d, and an error", s, token, e, want)
		}
	}
}

func TestTextsShareNoMemory(t *testing.T) {
	s := strings.Clone(`["abcdefgh", "i\tj"]`)
	token, _ := Next(s, 1)
	if token.S != "abcdefgh" || shares(token.S, s) {
		t.Errorf("the value %q lies in the string that was handed in", token.S)
	}
	all, _, _ := Tokens(s)
	for _, token := range all {
		if shares(token.S, s) {
			t.Errorf("the value %q lies in the string that was handed in", token.S)
		}
	}
}

// P10.2

func TestTokensByCase(t *testing.T) {
	cases := []struct {
		s    string
		want []api.Token
		at   int
		e    api.Errno
	}{
		{"", []api.Token{{}}, 0, api.OK},
		{"  ", []api.Token{{At: 2}}, 0, api.OK},
		{"01", []api.Token{{Kind: 8, Size: 1}, {Kind: 8, At: 1, Size: 1, N: 1}, {At: 2}}, 0, api.OK},
		{"truetrue", []api.Token{{Kind: 9, Size: 4}, {Kind: 9, At: 4, Size: 4}, {At: 8}}, 0, api.OK},
		{`"a""b"`, []api.Token{{Kind: 7, Size: 3, S: "a"}, {Kind: 7, At: 3, Size: 3, S: "b"}, {At: 6}}, 0, api.OK},
		{"1-2", []api.Token{{Kind: 8, Size: 1, N: 1}, {Kind: 8, At: 1, Size: 2, N: -2}, {At: 3}}, 0, api.OK},
		{`"a" 1e`, nil, 4, api.ErrReal},
		{"1.", nil, 0, api.ErrReal},
		{"[1, x, 1.5", nil, 4, api.ErrForm},
		{"[1, 9223372036854775808, x]", nil, 4, api.ErrOver},
		{`[ "a`, nil, 4, api.ErrShort},
		{`["a", "b\q`, nil, 8, api.ErrForm},
		{`{"\ud800`, nil, 2, api.ErrText},
		{"1 -", nil, 2, api.ErrForm},
		{"]]}{,:", []api.Token{{Kind: 4, Size: 1}, {Kind: 4, At: 1, Size: 1}, {Kind: 2, At: 2, Size: 1}, {Kind: 1, At: 3, Size: 1}, {Kind: 6, At: 4, Size: 1}, {Kind: 5, At: 5, Size: 1}, {At: 6}}, 0, api.OK},
	}
	for _, c := range cases {
		all, at, e := Tokens(c.s)
		if !sameTokens(all, c.want) || at != c.at || e != c.e {
			t.Errorf("Tokens(%q) = %+v, %d, %d, want %+v, %d, %d", c.s, all, at, e, c.want, c.at, c.e)
		}
		checkTokens(t, c.s)
	}
}

func TestTheChaptersList(t *testing.T) {
	all, at, e := Tokens("[1, -0]")
	want := []api.Token{{Kind: 3, Size: 1}, {Kind: 8, At: 1, Size: 1, N: 1}, {Kind: 6, At: 2, Size: 1}, {Kind: 8, At: 4, Size: 2}, {Kind: 4, At: 6, Size: 1}, {At: 7}}
	if !sameTokens(all, want) || at != 0 || e != api.OK {
		t.Errorf("Tokens([1, -0]) = %+v, %d, %d", all, at, e)
	}
}

func TestEveryShortString(t *testing.T) {
	eachString([]string{"-", "0", "1", "9", ".", "e", " ", ",", `"`, "x"}, 5, func(s string) { checkTokens(t, s) })
	eachString([]string{`"`, `\`, "u", "t", "1", "\n", "\xc3", "\xa9", "]"}, 4, func(s string) { checkAll(t, s) })
}

func TestTokensOfRandomPieces(t *testing.T) {
	random := rand.New(rand.NewSource(103))
	for range 30000 {
		s := ""
		for range random.Intn(12) {
			s += somePiece(random)
		}
		checkTokens(t, s)
		checkNext(t, s, random.Intn(len(s)+1))
	}
}

func somePiece(random *rand.Rand) string {
	pieces := []string{"{", "}", "[", "]", ":", ",", "true", "false", "null", " ", "\t", "\n", "\r", `"k"`, `"\u00e9 😀"`, "0", "-1", "12345"}
	if random.Intn(20) == 0 {
		faults := []string{"x", "1.5", "-", `"`, "tru", "99999999999999999999", "\x00", `"\q"`, "1e3"}
		return faults[random.Intn(len(faults))]
	}
	return pieces[random.Intn(len(pieces))]
}

func TestEachTokenIsTheOneThatNextFinds(t *testing.T) {
	s := `{"a": [1, -2, true, false, null, "b\n", {}], "c" : 01}`
	all, _, e := Tokens(s)
	if e != api.OK {
		t.Fatalf("Tokens = %d", e)
	}
	at := 0
	for i, token := range all {
		if next, e := Next(s, at); next != token || e != api.OK {
			t.Errorf("token %d is %+v, but Next(s, %d) = %+v, %d", i, token, at, next, e)
		}
		at = token.At + token.Size
	}
	if last := all[len(all)-1]; last != (api.Token{At: len(s)}) {
		t.Errorf("the last token is %+v", last)
	}
}

func TestTokensOfTheLibrarysJson(t *testing.T) {
	random := rand.New(rand.NewSource(104))
	for range 2000 {
		raw, err := json.Marshal(someJson(random, 4))
		if err != nil {
			t.Fatal(err)
		}
		var wide bytes.Buffer
		if err := json.Indent(&wide, raw, "\r", "\t "); err != nil {
			t.Fatal(err)
		}
		for _, s := range []string{string(raw), wide.String()} {
			checkTokens(t, s)
			all, _, e := Tokens(s)
			if written := rewrite(all, ""); written != rewrite(mustTokens(t, string(raw)), "") || e != api.OK {
				t.Fatalf("Tokens(%q), written again: %q, %d", s, written, e)
			}
			if !sameJson(t, rewrite(all, " "), s) {
				t.Fatalf("Tokens(%q), written again, is other JSON", s)
			}
		}
	}
}

func someJson(random *rand.Rand, depth int) any {
	switch n := random.Intn(7); {
	case n == 0 && depth > 0:
		list := []any{}
		for range random.Intn(5) {
			list = append(list, someJson(random, depth-1))
		}
		return list
	case n <= 2 && depth > 0:
		object := map[string]any{}
		for range random.Intn(5) {
			object[someText(random)] = someJson(random, depth-1)
		}
		return object
	case n == 3:
		return someText(random)
	case n == 4:
		return random.Intn(2) == 0
	case n == 5:
		return int64(random.Uint64()) >> random.Intn(64)
	}
	return nil
}

func someText(random *rand.Rand) string {
	runes := []rune{'a', '"', '\\', '/', 8, 10, 1, 0x7f, 0xe9, 0x20ac, 0x1f600, '<', 0x2028, '1', '[', ' '}
	s := ""
	for range random.Intn(6) {
		s += string(runes[random.Intn(len(runes))])
	}
	return s
}

func mustTokens(t *testing.T, s string) []api.Token {
	t.Helper()
	all, at, e := Tokens(s)
	if e != api.OK {
		t.Fatalf("Tokens(%q) = %d at %d", s, e, at)
	}
	return all
}

func sameJson(t *testing.T, a, b string) bool {
	t.Helper()
	var x, y any
	if err := json.Unmarshal([]byte(a), &x); err != nil {
		t.Fatalf("%q: %v", a, err)
	}
	if err := json.Unmarshal([]byte(b), &y); err != nil {
		t.Fatalf("%q: %v", b, err)
	}
	return reflect.DeepEqual(x, y)
}

// rewrite writes the tokens, with the same blanks behind each of them.
func rewrite(all []api.Token, blanks string) string {
	var whole strings.Builder
	for _, token := range all {
		whole.WriteString(written(token))
		whole.WriteString(blanks)
	}
	return whole.String()
}

func written(token api.Token) string {
	switch token.Kind {
	case api.TEnd:
		return ""
	case api.TText:
		s, _ := quote.Put(token.S)
		return s
	case api.TNumber:
		return strconv.FormatInt(token.N, 10)
	}
	for word, kind := range fixed {
		if kind == token.Kind {
			return word
		}
	}
	return "?"
}

func TestNoTokensBesideAnError(t *testing.T) {
	for _, s := range []string{"x", "1 2 3 x", `["a", "b", -]`, "[1, 2.5]", `"a`} {
		all, _, e := Tokens(s)
		if len(all) != 0 || e == api.OK {
			t.Errorf("Tokens(%q) = %+v, %d, want no tokens, and an error", s, all, e)
		}
	}
}

// A string twice as long may take twice as long: a way that takes four times as long would be at it for minutes.
func TestLongStringsEnd(t *testing.T) {
	begun := time.Now()
	size := 1 << 20
	for _, piece := range []string{"0", "[", " ", "1 ", `"a"`, "true", "-0"} {
		s := strings.Repeat(piece, size)
		all, _, e := Tokens(s)
		count := size + 1
		if piece == " " {
			count = 1
		}
		if len(all) != count || e != api.OK {
			t.Errorf("%d times %q: %d tokens, %d, want %d", size, piece, len(all), e, count)
		}
	}
	if _, at, e := Tokens(strings.Repeat("9", size)); at != 0 || e != api.ErrOver {
		t.Errorf("a long number: %d at %d", e, at)
	}
	if _, at, e := Tokens(strings.Repeat("9", size) + "e"); at != 0 || e != api.ErrReal {
		t.Errorf("a long number and an e: %d at %d", e, at)
	}
	if took := time.Since(begun); took > time.Minute {
		t.Errorf("it took %v", took)
	}
}

// P10.3

func TestTokensAndBlanksCoverTheString(t *testing.T) {
	random := rand.New(rand.NewSource(105))
	for range 20000 {
		s := ""
		for range random.Intn(12) {
			s += somePiece(random)
		}
		all, _, e := Tokens(s)
		if e != api.OK {
			continue
		}
		checkCover(t, s, all)
	}
}

func checkCover(t *testing.T, s string, all []api.Token) {
	t.Helper()
	at := 0
	for i, token := range all {
		if token.At < at || token.At+token.Size > len(s) || strings.Trim(s[at:token.At], " \t\n\r") != "" {
			t.Fatalf("%q: ahead of token %d, %+v, something else than blanks is left", s, i, token)
		}
		if (token.Size == 0) != (token.Kind == api.TEnd) {
			t.Fatalf("%q: token %d, %+v, has that many bytes", s, i, token)
		}
		at = token.At + token.Size
	}
	if last := all[len(all)-1]; at != len(s) || last.Kind != api.TEnd {
		t.Fatalf("%q: the last token is %+v", s, last)
	}
}

func TestTokensSeparatedByBlanksAreTheSame(t *testing.T) {
	random := rand.New(rand.NewSource(106))
	for range 20000 {
		var want []api.Token
		s := someBlanks(random, 0)
		for range random.Intn(10) {
			token := someToken(random)
			bytes := written(token)
			token.At, token.Size = len(s), len(bytes)
			want = append(want, token)
			s += bytes + someBlanks(random, 1)
		}
		want = append(want, api.Token{At: len(s)})
		if all, at, e := Tokens(s); !sameTokens(all, want) || at != 0 || e != api.OK {
			t.Fatalf("Tokens(%q) = %+v, %d, %d, want %+v", s, all, at, e, want)
		}
	}
}

func someBlanks(random *rand.Rand, least int) string {
	s := ""
	for range least + random.Intn(3) {
		s += string(" \t\n\r"[random.Intn(4)])
	}
	return s
}

func someToken(random *rand.Rand) api.Token {
	kind := 1 + random.Intn(11)
	switch kind {
	case api.TText:
		return api.Token{Kind: kind, S: someText(random)}
	case api.TNumber:
		return api.Token{Kind: kind, N: int64(random.Uint64()) >> random.Intn(64)}
	}
	return api.Token{Kind: kind}
}
