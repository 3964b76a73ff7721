package grammar

import (
	"encoding/json"
	"math/rand"
	"regexp"
	"strconv"
	"strings"
	"testing"
	"time"

	"stoplog/api"
	"stoplog/quote"
)

// oracle says what the chapter says, by its own words: each definition is asked of the whole of a string. It keeps what it has found.
type oracle struct {
	texts, items, members map[string]int
}

func newOracle() *oracle {
	return &oracle{map[string]int{}, map[string]int{}, map[string]int{}}
}

var integerForm = regexp.MustCompile(`^-?(?:0|[1-9][0-9]*)$`)

func trim(s string) string { return strings.Trim(s, "\x20\x09\x0a\x0d") }

// levelOf is what Level must answer.
func levelOf(s string) int { return newOracle().text(trim(s)) }

// isOf is what Is must answer.
func isOf(s string) bool { return levelOf(s) >= 0 && levelOf(s) <= 64 }

// keep answers from the map, and works out what is not there.
func keep(found map[string]int, s string, work func() int) int {
	level, ok := found[s]
	if !ok {
		level = work()
		found[s] = level
	}
	return level
}

// text is the level of the text of a value that s is, without blanks around it, or -1.
func (o *oracle) text(s string) int {
	return keep(o.texts, s, func() int {
		switch {
		case s == "null", s == "true", s == "false", integerForm.MatchString(s), isName(s):
			return 0
		case strings.HasPrefix(s, "[") && strings.HasSuffix(s, "]"):
			return within(s[1:len(s)-1], o.itemsOf)
		case strings.HasPrefix(s, "{") && strings.HasSuffix(s, "}"):
			return within(s[1:len(s)-1], o.membersOf)
		}
		return -1
	})
}

func isName(s string) bool {
	_, end, e := quote.Take(s, 0)
	return e == api.OK && end == len(s)
}

// within is the level of brackets by what is between them.
func within(s string, level func(string) int) int {
	if trim(s) == "" {
		return 1
	}
	if n := level(s); n >= 0 {
		return 1 + n
	}
	return -1
}

func (o *oracle) itemsOf(s string) int {
	return keep(o.items, s, func() int {
		return chain(s, o.itemsOf, func(s string) int { return o.text(trim(s)) })
	})
}

func (o *oracle) membersOf(s string) int {
	return keep(o.members, s, func() int {
		return chain(s, o.membersOf, o.member)
	})
}

// chain is one, or one followed by a comma and a chain.
func chain(s string, more, one func(string) int) int {
	if n := one(s); n >= 0 {
		return n
	}
	for i := range len(s) {
		if s[i] != ',' {
			continue
		}
		if first, rest := one(s[:i]), -1; first >= 0 {
			if rest = more(s[i+1:]); rest >= 0 {
				return max(first, rest)
			}
		}
	}
	return -1
}

func (o *oracle) member(s string) int {
	for i := range len(s) {
		if s[i] == ':' && isName(trim(s[:i])) && o.text(trim(s[i+1:])) >= 0 {
			return o.text(trim(s[i+1:]))
		}
	}
	return -1
}

// Checks of one string each.

// checkLevel holds both functions against a level that is known.
func checkLevel(t *testing.T, s string, want int) {
	t.Helper()
	if got := Level(s); got != want {
		t.Fatalf("Level(%s) = %d, want %d", short(s), got, want)
	}
	if got, is := Is(s), want >= 0 && want <= 64; got != is {
		t.Fatalf("Is(%s) = %t, want %t", short(s), got, is)
	}
}

func check(t *testing.T, s string) {
	t.Helper()
	checkLevel(t, s, levelOf(s))
}

// short is s for a message.
func short(s string) string {
	if len(s) > 200 {
		return strconv.Quote(s[:200]) + ".. of " + strconv.Itoa(len(s)) + " bytes"
	}
	return strconv.Quote(s)
}

// eachString calls visit with every string of at most size of the letters.
func eachString(letters []string, size int, visit func(string)) {
	var grow func(s string, left int)
	grow = func(s string, left int) {
		visit(s)
		if left == 0 {
			return
		}
		for _, letter := range letters {
			grow(s+letter, left-1)
		}
	}
	grow("", size)
}

// nested is s within that many lists or objects, in turn as the kinds say.
func nested(s string, levels int, kinds string) string {
	ahead, behind := make([]string, levels), make([]string, levels)
	for i := range levels {
		ahead[i], behind[levels-1-i] = "[", "]"
		if kinds[i%len(kinds)] == '{' {
			ahead[i], behind[levels-1-i] = `{"a":`, "}"
		}
	}
	return strings.Join(ahead, "") + s + strings.Join(behind, "")
}

// samples are texts of values with everything that the grammar has.
var samples = []string{
	"null", "true", "false", "0", "-0", "-10", "907", `""`, `"a"`, `"\"\\\u00e9"`, `"[{,:"`,
	"[]", "{}", "[ ]", "{\t}", "[1]", "[null,true]", `["a","b"]`, "[[],[]]", "[-0,{}]", "[ 1 , 2 ]",
	`{"a":1}`, `{"a":1,"a":[2]}`, `{ "a" : 1 , "b" : 2 }`, `{"":{"":{}}}`, `{"a":[],"b":false}`, `[{"a":[[1]]},"b"]`,
}

// P12.1 and P12.2

func TestByCase(t *testing.T) {
	cases := []struct {
		s     string
		level int
	}{
		// words
		{"null", 0}, {"true", 0}, {"false", 0},
		{"nul", -1}, {"nulll", -1}, {"tru", -1}, {"truee", -1}, {"fals", -1}, {"falsee", -1},
		{"Null", -1}, {"TRUE", -1}, {"n ull", -1}, {"nulltrue", -1}, {"null null", -1}, {"undefined", -1}, {"NaN", -1},
		// integers
		{"0", 0}, {"-0", 0}, {"1", 0}, {"-1", 0}, {"10", 0}, {"-907", 0}, {"1234567890", 0},
		{"9223372036854775807", 0}, {"9223372036854775808", 0}, {"-9223372036854775809", 0}, {"99999999999999999999", 0}, {"18446744073709551616", 0},
		{"-", -1}, {"--1", -1}, {"- 1", -1}, {"1-", -1}, {"1-2", -1}, {"+1", -1}, {"+0", -1}, {"-+1", -1},
		{"01", -1}, {"-01", -1}, {"00", -1}, {"-00", -1}, {"0 1", -1}, {"1 2", -1}, {"1_0", -1}, {"0x1", -1}, {"1a", -1},
		{"1.5", -1}, {"1.", -1}, {".5", -1}, {"-.5", -1}, {"0.0", -1}, {"1e3", -1}, {"1E3", -1}, {"1e", -1}, {"0e0", -1},
		{"\u0661", -1}, {"/", -1}, {";", -1}, {"1/", -1}, {"1:", -1}, {"1;", -1}, // the bytes beside the digits
		// names
		{`""`, 0}, {`"a"`, 0}, {`"é😀"`, 0}, {`"\b\f\n\r\t\/\"\\"`, 0}, {`"\u0041\ud83d\ude00"`, 0}, {"\"\x7f\"", 0}, {`"[1"`, 0}, {`" "`, 0},
		{`"`, -1}, {`"a`, -1}, {`a"`, -1}, {`"a""`, -1}, {`"a""b"`, -1}, {`"a" "b"`, -1}, {`'a'`, -1}, {`a`, -1}, {`\"a"`, -1},
		{"\"\n\"", -1}, {"\"\x00\"", -1}, {"\"\x1f\"", -1}, {"\"\xff\"", -1}, {"\"\xc3\"", -1}, {`"\x"`, -1}, {`"\u12"`, -1}, {`"\ud800"`, -1}, {`"\udc00\ud800"`, -1}, {`"\"`, -1},
		// lists
		{"[]", 1}, {"[ \t\n\r]", 1}, {"[1]", 1}, {"[1,2]", 1}, {"[1,[]]", 2}, {"[[],1]", 2}, {"[[[]],[]]", 3}, {"[[],[[]]]", 3}, {"[[],[],[]]", 2}, {"[[ ]]", 2}, {"[[1],2,[[3],4]]", 3},
		{`["a","b"]`, 1}, {"[null,true,false]", 1}, {"[{}]", 2}, {"[-0,-1]", 1},
		{"[", -1}, {"]", -1}, {"[[]", -1}, {"[]]", -1}, {"][", -1}, {"[]1", -1}, {"1[]", -1}, {"[][]", -1}, {"[] []", -1}, {"[],[]", -1},
		{"[,]", -1}, {"[1,]", -1}, {"[1, ]", -1}, {"[,1]", -1}, {"[ ,1]", -1}, {"[1,,2]", -1}, {"[1, ,2]", -1}, {"[1 2]", -1}, {"[1", -1}, {"[1,", -1}, {"[1,2", -1},
		{`["a" "b"]`, -1}, {`["a""b"]`, -1}, {`["a"1]`, -1}, {`[1"a"]`, -1}, {"[[][]]", -1}, {"[[]1]", -1}, {"[1[]]", -1}, {"[01]", -1}, {"[1.5]", -1}, {"[-]", -1}, {"[nul]", -1},
		{`["a":1]`, -1}, {"[:]", -1}, {"[1:2]", -1}, {"[:1]", -1}, {"[1:]", -1},
		// objects
		{"{}", 1}, {"{ \t\n\r}", 1}, {`{"a":1}`, 1}, {`{"":null}`, 1}, {`{"a":1,"b":2}`, 1}, {`{"a":1,"a":[2]}`, 2}, {`{"a":[2],"a":1}`, 2}, {`{"a":{},"b":{"c":{}}}`, 3}, {`{"a":{"c":{}},"b":{}}`, 3},
		{`{"a":"b"}`, 1}, {`{"a":{"a":{"a":0}}}`, 3}, {`{"a":[{"b":[]}]}`, 4}, {`{"\u0061":1}`, 1}, {`{"{":"}"}`, 1},
		{"{", -1}, {"}", -1}, {"{{}", -1}, {"{}}", -1}, {"}{", -1}, {"{}{}", -1}, {"{} 1", -1}, {"{},{}", -1}, {"{{}}", -1}, {"{[]}", -1},
		{"{,}", -1}, {`{"a":1,}`, -1}, {`{"a":1, }`, -1}, {`{,"a":1}`, -1}, {`{"a":1,,"b":2}`, -1}, {`{"a":1 "b":2}`, -1}, {`{"a":1`, -1}, {`{"a":1,`, -1}, {`{"a":1,"b"`, -1}, {`{"a":1,"b":`, -1}, {`{"a":1,"b"}`, -1}, {`{"a":1,"b":}`, -1},
		{`{"a"`, -1}, {`{"a":`, -1}, {`{"a"}`, -1}, {`{"a":}`, -1}, {`{"a",1}`, -1}, {`{"a" 1}`, -1}, {`{"a"1}`, -1}, {`{"a"::1}`, -1}, {`{"a":1:2}`, -1}, {`{"a":1 2}`, -1}, {`{"a":,"b":1}`, -1}, {`{"a","b":1}`, -1}, {`{"a":"b":1}`, -1}, {`{"a":"b","c"}`, -1},
		{"{1:1}", -1}, {"{1}", -1}, {"{null:1}", -1}, {"{true:1}", -1}, {"{a:1}", -1}, {"{'a':1}", -1}, {`{[]:1}`, -1}, {`{{}:1}`, -1}, {`{:1}`, -1}, {`{:}`, -1}, {`{"a":1,2:3}`, -1}, {`{"a":1,2}`, -1}, {`{"a":1,[]}`, -1}, {`{"\ud800":1}`, -1}, {"{\"\n\":1}", -1}, {`{"a:1}`, -1},
		// brackets of two kinds
		{"[}", -1}, {"{]", -1}, {"[{]}", -1}, {`{"a":[}]`, -1}, {`{"a":[1}]`, -1}, {`[{"a":1]}`, -1}, {"[1}", -1}, {`{"a":1]`, -1}, {"(1)", -1}, {"[)", -1},
		// what a comma asks for hangs on the brackets around it
		{`[{"a":1},2]`, 2}, {`[{"a":1},"b":2]`, -1}, {`{"a":[1],"b":2}`, 2}, {`{"a":[1],2}`, -1}, {`{"a":[],[]}`, -1}, {`[{},{}]`, 2}, {`[{"a":1,2}]`, -1}, {`{"a":["b":1]}`, -1}, {`{"a":["b",1],"c":{"d":[2]}}`, 3},
		// nothing, and things that are outside all brackets
		{"", -1}, {" ", -1}, {" \t\n\r", -1}, {",", -1}, {":", -1}, {"1,", -1}, {",1", -1}, {"1,2", -1}, {"1:2", -1}, {`"a":1`, -1}, {"1]", -1}, {"1}", -1}, {"[1]]", -1}, {"[1],", -1}, {"[1]:", -1},
		// no remarks
		{"1//", -1}, {"/**/1", -1}, {"#1", -1},
		// other blanks than the four
		{"\v1", -1}, {"1\f", -1}, {"\u00a01", -1}, {"\ufeff1", -1}, {"1\u2028", -1}, {"\x001", -1}, {"1\x00", -1}, {"[\v]", -1}, {"{\f}", -1}, {"[1\u00a0]", -1}, {"\b1", -1}, {"\x0e1", -1}, {"!1", -1}, {"\x1f1", -1},
	}
	for _, c := range cases {
		if got := Level(c.s); got != c.level {
			t.Errorf("Level(%q) = %d, want %d", c.s, got, c.level)
		}
		if got := Is(c.s); got != (c.level >= 0) {
			t.Errorf("Is(%q) = %t, want %t", c.s, got, c.level >= 0)
		}
		if want := levelOf(c.s); want != c.level || isOf(c.s) != (want >= 0) {
			t.Errorf("the oracle says %d of %q, not %d", want, c.s, c.level)
		}
	}
}

func TestIsUpToTheLimitOfTheDepth(t *testing.T) {
	for _, kinds := range []string{"[", "{", "[{", "{[", "[[{", "{{["} {
		for _, inner := range []string{"1", "[]", "{}", `"a"`, "[[],1]", `{"a":1,"b":[2]}`, `[1,{"a":[]},2]`} {
			deep := levelOf(inner)
			for levels := range 140 {
				checkLevel(t, nested(inner, levels, kinds), levels+deep)
				checkLevel(t, "\t"+nested(" "+inner+" ", levels, kinds)+"\n", levels+deep)
			}
		}
	}
	checkLevel(t, nested("", 64, "["), 64)
	checkLevel(t, nested("", 65, "["), 65)
	if api.MaxDepth != 64 {
		t.Errorf("the chapter's limit is 64, not %d", api.MaxDepth)
	}
}

func TestTheLimitHoldsForEachItem(t *testing.T) {
	most, over := nested("1", 63, "[{"), nested("1", 64, "{[")
	for _, s := range []string{
		"[%]", "[1,%]", "[%,1]", "[[],%,[]]", `{"a":%}`, `{"a":%,"b":1}`, `{"a":{},"a":%}`, "[%,%]", `{"a":%,"b":%}`,
	} {
		checkLevel(t, strings.ReplaceAll(s, "%", most), 64)
		checkLevel(t, strings.ReplaceAll(s, "%", over), 65)
		checkLevel(t, strings.ReplaceAll(s, "%", nested("1", 5000, "[{")), 5001)
	}
}

func TestVeryDeep(t *testing.T) {
	for _, levels := range []int{255, 256, 257, 1000, 9999, 10000, 10001, 32768, 65535, 65536} {
		for _, kinds := range []string{"[", "{", "[{"} {
			s := nested("1", levels, kinds)
			checkLevel(t, s, levels)
			checkLevel(t, s[:len(s)-1], -1)
			checkLevel(t, s[1:], -1)
			checkLevel(t, s+"]", -1)
			checkLevel(t, s+"}", -1)
			checkLevel(t, s[:len(s)/2], -1)
			checkLevel(t, s[:len(s)-1]+",", -1)
		}
		checkLevel(t, strings.Repeat("[", levels), -1)
		checkLevel(t, strings.Repeat("]", levels), -1)
		checkLevel(t, strings.Repeat("{", levels), -1)
		checkLevel(t, strings.Repeat("}", levels), -1)
		checkLevel(t, strings.Repeat("[{", levels), -1)
		checkLevel(t, strings.Repeat("[", levels)+strings.Repeat("}", levels), -1)
		checkLevel(t, strings.Repeat("[", levels)+strings.Repeat("]", levels), levels)
		checkLevel(t, strings.Repeat("[]", levels), -1)
	}
}

func TestEveryPairOfBytes(t *testing.T) {
	for i := range 256 {
		check(t, string([]byte{byte(i)}))
		for k := range 256 {
			check(t, string([]byte{byte(i), byte(k)}))
		}
	}
}

func TestEveryByteAtEachPlace(t *testing.T) {
	for _, s := range samples {
		for place := range len(s) + 1 {
			check(t, s[:place])
			check(t, s[place:])
			if place < len(s) {
				check(t, s[:place]+s[place+1:])
			}
			for i := range 256 {
				b := string([]byte{byte(i)})
				check(t, s[:place]+b+s[place:])
				if place < len(s) {
					check(t, s[:place]+b+s[place+1:])
				}
			}
		}
	}
}

func TestEveryPairOfBlanksAtEachPlace(t *testing.T) {
	for _, s := range samples {
		for place := range len(s) + 1 {
			eachString([]string{" ", "\t", "\n", "\r", "\v"}, 2, func(blanks string) {
				check(t, s[:place]+blanks+s[place:])
				check(t, blanks+s[:place]+blanks+s[place:]+blanks)
			})
		}
	}
}

func TestEveryPairOfSamples(t *testing.T) {
	for _, a := range samples {
		for _, b := range samples {
			for _, form := range []string{"a b", "ab", "a,b", "a:b", "[a,b]", "[a b]", "[ab]", "[a:b]", "{a:b}", "{a,b}", "{ab}", "{a b}", "[a,]", "[a,b", "{a:b,}", "{a:b,b:a}", "{a:b b:a}", "{a:b,b}"} {
				check(t, strings.NewReplacer("a", a, "b", b).Replace(form))
			}
		}
	}
}

func TestEveryShortString(t *testing.T) {
	visit := func(s string) { check(t, s) }
	eachString([]string{"[", "]", ",", "1", " "}, 7, visit)
	eachString([]string{"{", "}", `"a"`, ":", ",", "1"}, 6, visit)
	eachString([]string{"{", "}", `"a":`, "[", "]", ","}, 6, visit)
	eachString([]string{"-", "0", "1", "9", ".", "e", "+", ",", " "}, 5, visit)
	eachString([]string{`"`, `\`, "u", "t", "1", "\n", "\xc3", "\xa9"}, 5, visit)
	eachString([]string{"null", "true", "false", "n", "e", "[", "]", ","}, 4, visit)
	for _, around := range []string{"[%]", "{%}", `{"a":%}`, `[1,%]`, `{"a":1,%}`} {
		eachString([]string{"1", ",", ":", `"a"`, "[", "]", "{", "}", " "}, 4, func(s string) {
			check(t, strings.ReplaceAll(around, "%", s))
		})
	}
}

func TestRandomPieces(t *testing.T) {
	random := rand.New(rand.NewSource(121))
	pieces := []string{"{", "}", "[", "]", ":", ",", `"a":`, `"b"`, "1", "-0", "null", "true", "false", " ", "\n", "[]", "{}", ",", `{"a":`}
	for range 60000 {
		s := ""
		for range random.Intn(14) {
			s += pieces[random.Intn(len(pieces))]
		}
		check(t, s)
		check(t, "["+s+"]")
		check(t, `{"a":`+s+"}")
	}
}

// someText is the text of a value that is at most so deep, with its level.
func someText(random *rand.Rand, depth int) (string, int) {
	if depth == 0 || random.Intn(3) == 0 {
		plain := []string{"null", "true", "false", "0", "-0", `""`, `"[1,"`, `"\"\ud83d\ude00é"`, "99999999999999999999", strconv.FormatInt(int64(random.Uint64())>>random.Intn(64), 10)}
		return plain[random.Intn(len(plain))], 0
	}
	object := random.Intn(2) == 0
	level := 0
	var parts []string
	for range random.Intn(4) {
		item, deep := someText(random, depth-1)
		if object {
			item = `"` + strings.Repeat("n", random.Intn(3)) + `"` + someBlanks(random) + ":" + someBlanks(random) + item
		}
		parts = append(parts, someBlanks(random)+item+someBlanks(random))
		level = max(level, deep)
	}
	if parts == nil {
		parts = []string{someBlanks(random)}
	}
	if whole := strings.Join(parts, ","); object {
		return "{" + whole + "}", level + 1
	} else {
		return "[" + whole + "]", level + 1
	}
}

func someBlanks(random *rand.Rand) string {
	s := ""
	for range random.Intn(6) - 3 {
		s += string(" \t\n\r"[random.Intn(4)])
	}
	return s
}

func TestRandomTexts(t *testing.T) {
	random := rand.New(rand.NewSource(122))
	for range 20000 {
		s, level := someText(random, random.Intn(8))
		s = someBlanks(random) + s + someBlanks(random)
		checkLevel(t, s, level)
		if len(s) < 80 {
			checkChanged(t, random, s)
		}
	}
}

// checkChanged changes a byte of s, or takes it away, or puts one in.
func checkChanged(t *testing.T, random *rand.Rand, s string) {
	t.Helper()
	bytes := "{}[]:,\"\\ 01-na\n\xff"
	for range 10 {
		place := random.Intn(len(s))
		i := random.Intn(len(bytes))
		b := bytes[i : i+1]
		check(t, s[:place]+s[place+1:])
		check(t, s[:place]+b+s[place+1:])
		check(t, s[:place]+b+s[place:])
	}
}

// The library's JSON has the same grammar where neither fractions, exponents, escapes nor bytes without a sequence are about.
func TestAsTheLibrarySays(t *testing.T) {
	random := rand.New(rand.NewSource(123))
	bytes := "{}[]:,\"\"  01-nulltruefalse"
	for range 20000 {
		s, _ := someText(random, random.Intn(9))
		s = strings.NewReplacer(`\"`, "", `\ud83d\ude00`, "", "é", "").Replace(s)
		for range random.Intn(3) {
			place := random.Intn(len(s))
			s = s[:place] + string(bytes[random.Intn(len(bytes))]) + s[place+random.Intn(2):]
		}
		exponent := regexp.MustCompile(`[0-9]e`).MatchString(s)
		if is := json.Valid([]byte(s)); !exponent && Is(s) != is {
			t.Fatalf("Is(%q) = %t, but the library says %t", s, Is(s), is)
		}
	}
}

func TestNamesAreWhatQuoteReads(t *testing.T) {
	random := rand.New(rand.NewSource(127))
	pieces := []string{
		"a", " ", "é", "😀", "\x7f", "[", ",", ":", `\n`, `\"`, `\\`, `\/`, `\u0041`, `\uD83D\uDE00`,
		`\`, `"`, `\q`, `\u12`, `\ud83d`, `\ude00`, "\n", "\x00", "\xc3", "\xc0\x80", "\xed\xa0\x80", "\xf4\x90\x80\x80", "\xe2\x82", "\x80", "\xff",
	}
	for range 30000 {
		s := `"`
		for range random.Intn(5) {
			s += pieces[random.Intn(14+random.Intn(len(pieces)-13))]
		}
		s += `"`
		for _, form := range []string{"%", "[%]", "[1,%]", "{%:1}", `{"a":1,%:2}`, `{"a":%}`, "%:1", "{%}"} {
			check(t, strings.ReplaceAll(form, "%", s))
		}
	}
}

func TestLongIntegers(t *testing.T) {
	for size := 1; size < 400; size++ {
		for _, digit := range []string{"1", "9", "5"} {
			s := strings.Repeat(digit, size)
			for _, want := range []string{s, "-" + s, digit + strings.Repeat("0", size)} {
				checkLevel(t, want, 0)
				checkLevel(t, "["+want+"]", 1)
				checkLevel(t, want+".", -1)
				checkLevel(t, want+"e1", -1)
				checkLevel(t, want+"-", -1)
			}
			checkLevel(t, "0"+s, -1)
			checkLevel(t, "-0"+s, -1)
			checkLevel(t, "[0"+s+"]", -1)
		}
	}
}

// A string twice as long may take twice as long: a way that takes four times as long would be at it for minutes.
func TestLongStringsEnd(t *testing.T) {
	begun := time.Now()
	size := 1 << 20
	repeat := func(s string) string { return strings.Repeat(s, size) }
	cases := []struct {
		s     string
		level int
	}{
		{"[" + repeat("1,") + "1]", 1},
		{"[" + repeat("[],") + "{}]", 2},
		{"[" + repeat("1 ,") + "]", -1},
		{"{" + repeat(`"a":1,`) + `"a":[]}`, 2},
		{"{" + repeat(`"a":1,`) + "}", -1},
		{`"` + repeat("a") + `"`, 0},
		{`"` + repeat(`\n`), -1},
		{repeat(" ") + "1" + repeat("\n"), 0},
		{repeat(" "), -1},
		{repeat("1"), 0},
		{repeat("1") + "e", -1},
		{repeat("0"), -1},
		{repeat("null"), -1},
		{repeat("[] "), -1},
		{"[" + repeat(`"a" `) + "]", -1},
		{repeat("\xff"), -1},
	}
	for _, c := range cases {
		checkLevel(t, c.s, c.level)
	}
	if took := time.Since(begun); took > time.Minute {
		t.Errorf("it took %v", took)
	}
}

// P12.2

func TestTheChaptersExamples(t *testing.T) {
	for s, want := range map[string]int{"{}": 1, "-0": 0, "99999999999999999999": 0, "nul": -1, "[": -1, "[1": -1, "]": -1, "[1,[]]": 2, "01": -1, "+1": -1, "1.5": -1, "[1,]": -1} {
		checkLevel(t, s, want)
	}
}

// P12.3

func TestBracketsAddALevel(t *testing.T) {
	random := rand.New(rand.NewSource(124))
	for range 20000 {
		s, level := someText(random, random.Intn(6))
		checkLevel(t, "["+s+"]", level+1)
		checkLevel(t, `{"k":`+s+"}", level+1)
		checkLevel(t, "[["+s+"]]", level+2)
		checkLevel(t, "["+s+","+s+"]", level+1)
		if Level("["+s+"]") != Level(s)+1 {
			t.Fatalf("Level(%q) = %d, in brackets %d", s, Level(s), Level("["+s+"]"))
		}
	}
}

func TestSurroundingBlanksChangeNothing(t *testing.T) {
	random := rand.New(rand.NewSource(125))
	texts := append([]string{"nul", "[", "]", "1,", "01", "", `"a`, "[1 2]", "{1:1}", "-", `{"a"}`}, samples...)
	for _, s := range texts {
		level, is := Level(s), Is(s)
		eachString([]string{" ", "\t", "\n", "\r"}, 3, func(blanks string) {
			for _, around := range []string{blanks + s, s + blanks, blanks + s + blanks} {
				if Level(around) != level || Is(around) != is {
					t.Fatalf("Level(%q) = %d, Is = %t, but without the blanks %d, %t", around, Level(around), Is(around), level, is)
				}
			}
		})
	}
	for range 20000 {
		s, level := someText(random, random.Intn(6))
		checkLevel(t, someBlanks(random)+s+someBlanks(random), level)
	}
}

// R4

func TestTheSameAnswerAgain(t *testing.T) {
	random := rand.New(rand.NewSource(126))
	var texts []string
	var levels []int
	for range 2000 {
		s, _ := someText(random, random.Intn(6))
		texts, levels = append(texts, s, s+"]"), append(levels, Level(s), Level(s+"]"))
	}
	for i := range texts {
		i = len(texts) - 1 - i
		if Level(texts[i]) != levels[i] || Is(texts[i]) != (levels[i] >= 0) {
			t.Fatalf("Level(%q) = %d, ahead of that %d", texts[i], Level(texts[i]), levels[i])
		}
	}
}
