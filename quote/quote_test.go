package quote

import (
	"encoding/hex"
	"encoding/json"
	"math"
	"math/rand"
	"regexp"
	"strconv"
	"strings"
	"testing"
	"unicode/utf16"
	"unicode/utf8"
	"unsafe"

	"stoplog/api"
)

// quoted is what Put must answer, by the chapter's own words, byte by byte.
func quoted(s string) (string, api.Errno) {
	if !utf8.ValidString(s) {
		return "", api.ErrText
	}
	short := map[byte]string{'"': `\"`, '\\': `\\`, 8: `\b`, 9: `\t`, 10: `\n`, 12: `\f`, 13: `\r`}
	whole := []byte(`"`)
	for _, b := range []byte(s) {
		switch {
		case short[b] != "":
			whole = append(whole, short[b]...)
		case b < 32:
			whole = append(whole, `\u00`+hex.EncodeToString([]byte{b})...)
		default:
			whole = append(whole, b)
		}
	}
	return string(append(whole, '"')), api.OK
}

// The escapes, as the chapter has them: the pair is looked for ahead of a half alone, and that one ahead of other digits.
var (
	pairForm   = regexp.MustCompile(`^\\u[dD][89abAB][0-9a-fA-F]{2}\\u[dD][c-fC-F][0-9a-fA-F]{2}`)
	halfForm   = regexp.MustCompile(`^\\u[dD][89a-fA-F][0-9a-fA-F]{2}`)
	digitsForm = regexp.MustCompile(`^\\u[0-9a-fA-F]{4}`)
	letterForm = regexp.MustCompile(`^\\["\\/bfnrt]`)
)

func digits(s string) rune {
	n, err := strconv.ParseInt(s, 16, 32)
	if err != nil {
		panic(err)
	}
	return rune(n)
}

// escaped is what the escape at the begin of s stands for, and its bytes.
func escaped(s string) (string, int, api.Errno) {
	switch {
	case letterForm.MatchString(s):
		return map[byte]string{'"': "\"", '\\': "\\", '/': "/", 'b': "\x08", 'f': "\x0c", 'n': "\x0a", 'r': "\x0d", 't': "\x09"}[s[1]], 2, api.OK
	case pairForm.MatchString(s):
		return string(utf16.DecodeRune(digits(s[2:6]), digits(s[8:12]))), 12, api.OK
	case halfForm.MatchString(s):
		return "", 0, api.ErrText
	case digitsForm.MatchString(s):
		return string(digits(s[2:6])), 6, api.OK
	}
	return "", 0, api.ErrForm
}

// unquoted is what Take must answer.
func unquoted(s string, at int) (string, int, api.Errno) {
	switch {
	case at < 0:
		return "", 0, api.ErrForm
	case at > len(s):
		return "", len(s), api.ErrForm
	case !strings.HasPrefix(s[at:], `"`):
		return "", at, api.ErrForm
	}
	value := ""
	for at++; at < len(s); {
		switch b := s[at]; {
		case b == '"':
			return value, at + 1, api.OK
		case b < 32:
			return "", at, api.ErrForm
		case b == '\\':
			piece, size, e := escaped(s[at:])
			if e != api.OK {
				return "", at, e
			}
			value, at = value+piece, at+size
		default:
			r, size := utf8.DecodeRuneInString(s[at:])
			if r == utf8.RuneError && size < 3 {
				return "", at, api.ErrText
			}
			value, at = value+string(r), at+size
		}
	}
	return "", len(s), api.ErrShort
}

// runes are next to each limit that the chapters name, and those that other programs like to escape.
func runes() []rune {
	return []rune{0, 1, 7, 8, 9, 10, 11, 12, 13, 14, 15, 16, 26, 27, 30, 31, ' ', '!', '"', '#', '&', '\'', '/', '0', '<', '>', 'A', '[', '\\', ']', 'b', 'n', 'u', 0x7e, 0x7f,
		0x80, 0x85, 0x9f, 0xa0, 0xe9, 0x7ff, 0x800, 0x20ac, 0x2028, 0x2029, 0xd7ff, 0xe000, 0xfeff, 0xfffc, 0xfffd, 0xfffe, 0xffff, 0x10000, 0x1f600, 0x10fffe, 0x10ffff}
}

// noTexts are strings that are not UTF-8.
func noTexts() []string {
	return []string{"\xff", "\x80", "\xbf", "\xc3", "\xc0\x80", "\xc1\xbf", "\xe2", "\xe2\x82", "\xe0\x80\x80", "\xed\xa0\x80", "\xed\xbf\xbf", "\xed\xa0\xbd\xed\xb8\x80",
		"\xf0\x90\x80", "\xf0\x80\x80\x80", "\xf4\x90\x80\x80", "\xf8\x88\x80\x80\x80", "\xfe"}
}

// fronts and tails are what may stand around a quoted string without making a difference.
func fronts() []string { return []string{"", "a", "\"", "\\", "\xff", "\x00\n", "\"a\""} }

func tails() []string { return []string{"", "a", "\"", "\\", "\xff", "\n", "\\u0041"} }

func checkPut(t *testing.T, s, want string, wantE api.Errno) {
	t.Helper()
	if got, e := Put(s); got != want || e != wantE {
		t.Errorf("Put(%.60q) is %.60q, %d, want %.60q, %d", s, got, e, want, wantE)
	}
}

func checkTake(t *testing.T, s string, at int, want string, next int, wantE api.Errno) {
	t.Helper()
	if got, after, e := Take(s, at); got != want || after != next || e != wantE {
		t.Errorf("Take(%.60q, %d) is %.60q, %d, %d, want %.60q, %d, %d", s, at, got, after, e, want, next, wantE)
	}
}

// checkInside has body behind a quote, and asks for the fault e at the offset at of body.
func checkInside(t *testing.T, body string, at int, e api.Errno) {
	t.Helper()
	checkTake(t, "\""+body, 0, "", at+1, e)
	checkTake(t, "ab\"\xc3\xa9\\n"+body, 2, "", at+7, e)
}

// checkValue has body between quotes, where it stands for want.
func checkValue(t *testing.T, body, want string) {
	t.Helper()
	whole := "\"" + body + "\""
	checkTake(t, whole, 0, want, len(whole), api.OK)
	checkTake(t, "\"a\""+whole+"\"", 3, want, len(whole)+3, api.OK)
}

func checkHexes(t *testing.T, s string, at, want int, ok bool) {
	t.Helper()
	if got, is := Hexes(s, at); got != want || is != ok {
		t.Errorf("Hexes(%q, %d) is %x, %t, want %x, %t", s, at, got, is, want, ok)
	}
}

// digitsOf is four digits of n, in small letters.
func digitsOf(n int) string {
	return hex.EncodeToString([]byte{byte(n >> 8), byte(n)})
}

// P9.1

func TestPutExamples(t *testing.T) {
	checkPut(t, "\x1f\x7f", "\"\\u001f\x7f\"", api.OK)
	checkPut(t, "\"", `"\""`, api.OK)
	checkPut(t, "", `""`, api.OK)
	checkPut(t, "a", `"a"`, api.OK)
	checkPut(t, `\`, `"\\"`, api.OK)
	checkPut(t, `\"\`, `"\\\"\\"`, api.OK)
	checkPut(t, "\b\t\n\f\r", `"\b\t\n\f\r"`, api.OK)
	checkPut(t, "\x00\x01\x0b\x0e\x1a", `"\u0000\u0001\u000b\u000e\u001a"`, api.OK)
	checkPut(t, "/ <>&'", `"/ <>&'"`, api.OK)
	checkPut(t, `\u0041\n`, `"\\u0041\\n"`, api.OK)
	checkPut(t, "\xc3\xa9\xe2\x82\xac\xf4\x8f\xbf\xbf", "\"\xc3\xa9\xe2\x82\xac\xf4\x8f\xbf\xbf\"", api.OK)
	checkPut(t, "\xef\xbf\xbd", "\"\xef\xbf\xbd\"", api.OK)
	checkPut(t, "\xff", "", api.ErrText)
	checkPut(t, "\"\xff", "", api.ErrText)
}

func TestPutOfEachRune(t *testing.T) {
	for r := range rune(utf8.MaxRune + 1) {
		if utf8.ValidRune(r) {
			want, e := quoted(string(r))
			checkPut(t, string(r), want, e)
		}
	}
}

func TestPutOfRunesTogether(t *testing.T) {
	for _, a := range runes() {
		for _, b := range runes() {
			for _, c := range runes() {
				s := string([]rune{a, b, c})
				want, e := quoted(s)
				checkPut(t, s, want, e)
			}
		}
	}
}

func TestPutOfNoTexts(t *testing.T) {
	for _, s := range noTexts() {
		for _, front := range []string{"", "a", "\"", "\n", "\xc3\xa9", strings.Repeat("a", 1000)} {
			for _, tail := range []string{"", "a", "\"", "\xff", strings.Repeat("a", 1000)} {
				checkPut(t, front+s+tail, "", api.ErrText)
			}
		}
	}
}

func TestPutOfAllPairsOfBytes(t *testing.T) {
	for a := range 256 {
		for b := range 256 {
			s := string([]byte{byte(a), byte(b)})
			want, e := quoted(s)
			checkPut(t, s, want, e)
		}
	}
}

func TestPutOfLongTexts(t *testing.T) {
	const times = 200000
	for _, r := range runes() {
		s := string(r)
		want, _ := quoted(s)
		checkPut(t, strings.Repeat(s, times), "\""+strings.Repeat(want[1:len(want)-1], times)+"\"", api.OK)
		checkPut(t, strings.Repeat(s, times)+"\xff", "", api.ErrText)
	}
}

// P9.2

func TestHexesExamples(t *testing.T) {
	checkHexes(t, "00e9", 0, 0xe9, true)
	checkHexes(t, "00E9", 0, 0xe9, true)
	checkHexes(t, "aBcD", 0, 0xabcd, true)
	checkHexes(t, "ffff", 0, 0xffff, true)
	checkHexes(t, "12345", 0, 0x1234, true)
	checkHexes(t, "12345", 1, 0x2345, true)
	checkHexes(t, "12345", 2, 0, false)
	checkHexes(t, "g1234g", 1, 0x1234, true)
	checkHexes(t, "\xff0000", 1, 0, true)
	checkHexes(t, "123", 0, 0, false)
	checkHexes(t, "", 0, 0, false)
}

func TestHexesOfEachNumber(t *testing.T) {
	for n := range 1 << 16 {
		small := digitsOf(n)
		large := strings.ToUpper(small)
		for _, s := range []string{small, large, small[:2] + large[2:], large[:1] + small[1:3] + large[3:]} {
			checkHexes(t, s, 0, n, true)
			checkHexes(t, `\u`+s+"0", 2, n, true)
		}
	}
}

func TestHexesOfEachByte(t *testing.T) {
	for b := range 256 {
		is := strings.IndexByte("0123456789abcdefABCDEF", byte(b)) >= 0
		for at := range 4 {
			list := []byte("1234")
			list[at] = byte(b)
			if !is {
				checkHexes(t, string(list), 0, 0, false)
				checkHexes(t, "00"+string(list)+"00", 2, 0, false)
			} else if _, ok := Hexes(string(list), 0); !ok {
				t.Errorf("Hexes(%q, 0) is false", list)
			}
		}
	}
}

func TestHexesOfWhatLooksLikeANumber(t *testing.T) {
	for _, s := range []string{"+123", "-123", "0x12", "0X12", "1_23", "_123", "12_3", " 123", "123 ", "123\n", "1.23", "1e+2", "1p-2", "0b1g", "\xef\xbc\x911", "\xef\xbc\xa1a", "12\xd9\xa1", "\x00123", "h123", "Infi", "NaN0"} {
		checkHexes(t, s, 0, 0, false)
		checkHexes(t, s+"4567", 0, 0, false)
	}
}

func TestHexesOutsideTheString(t *testing.T) {
	for _, s := range []string{"", "1", "1234", "12345678"} {
		for _, at := range []int{-1, -2, -4, -5, math.MinInt, math.MinInt + 1, len(s) - 3, len(s) - 2, len(s) - 1, len(s), len(s) + 1, 1 << 32, math.MaxInt - 4, math.MaxInt - 3, math.MaxInt - 2, math.MaxInt - 1, math.MaxInt} {
			checkHexes(t, s, at, 0, false)
		}
	}
}

// P9.3

func TestTakeExamples(t *testing.T) {
	checkTake(t, `"\u00E9"`, 0, "\xc3\xa9", 8, api.OK)
	checkTake(t, `"ab`, 0, "", 3, api.ErrShort)
	checkTake(t, "\"a\n", 0, "", 2, api.ErrForm)
	checkTake(t, "\"a\n\"", 0, "", 2, api.ErrForm)
	checkTake(t, `"\u0041"`, 0, "A", 8, api.OK)
	checkTake(t, `""`, 0, "", 2, api.OK)
	checkTake(t, `""`, 1, "", 2, api.ErrShort)
	checkTake(t, `"a"b`, 0, "a", 3, api.OK)
	checkTake(t, `a"b"`, 1, "b", 4, api.OK)
	checkTake(t, `"\"\\\/\b\f\n\r\t"`, 0, "\"\\/\x08\x0c\x0a\x0d\x09", 18, api.OK)
	checkTake(t, `"\ud83d\ude00"`, 0, "\xf0\x9f\x98\x80", 14, api.OK)
	checkTake(t, `"\uD83D\uDE00"`, 0, "\xf0\x9f\x98\x80", 14, api.OK)
	checkTake(t, `"\ud83d"`, 0, "", 1, api.ErrText)
	checkTake(t, `"\u12"`, 0, "", 1, api.ErrForm)
	checkTake(t, "\"\xff\"", 0, "", 1, api.ErrText)
	checkTake(t, "\"a\x7f\"", 0, "a\x7f", 4, api.OK)
	checkTake(t, "\"/\"", 0, "/", 3, api.OK)
	checkTake(t, `'a'`, 0, "", 0, api.ErrForm)
}

func TestTakeWithoutAQuote(t *testing.T) {
	for _, s := range []string{"", "a", "\"", "\"\"", "\"a\"", "a\"b\"", "\\\"", "\xff\"a\"", "'a'", " \"a\""} {
		for _, at := range []int{-1, -2, -len(s), -len(s) - 1, math.MinInt, math.MinInt + 1} {
			if at < 0 {
				checkTake(t, s, at, "", 0, api.ErrForm)
			}
		}
		for _, at := range []int{len(s), len(s) + 1, len(s) + 2, 1 << 32, math.MaxInt - 1, math.MaxInt} {
			checkTake(t, s, at, "", len(s), api.ErrForm)
		}
		for at := range len(s) {
			want, next, e := unquoted(s, at)
			checkTake(t, s, at, want, next, e)
			if s[at] != '"' {
				checkTake(t, s, at, "", at, api.ErrForm)
			}
		}
	}
}

func TestTakeOfBytesBelow32(t *testing.T) {
	for b := range 32 {
		for _, tail := range append(tails(), "a\"") {
			checkInside(t, string(rune(b))+tail, 0, api.ErrForm)
			checkInside(t, "ab"+string(rune(b))+tail, 2, api.ErrForm)
		}
		checkInside(t, "\\"+string(rune(b))+"\"", 0, api.ErrForm)
	}
}

func TestTakeOfEachRune(t *testing.T) {
	for r := rune(32); r <= utf8.MaxRune; r++ {
		if utf8.ValidRune(r) && r != '"' && r != '\\' {
			whole := "\"" + string(r) + "\""
			checkTake(t, whole, 0, string(r), len(whole), api.OK)
		}
	}
}

func TestTakeOfNoTexts(t *testing.T) {
	for _, s := range noTexts() {
		for _, tail := range tails() {
			checkInside(t, s+tail, 0, api.ErrText)
			checkInside(t, "a\xc3\xa9"+s+tail, 3, api.ErrText)
			checkInside(t, "\\u0041"+s+tail, 6, api.ErrText)
		}
	}
	checkTake(t, "\xff\"a\"\xff", 1, "a", 4, api.OK)
}

func TestTakeOfEscapesOfTwoBytes(t *testing.T) {
	meanings := map[byte]string{'"': "\x22", '\\': "\x5c", '/': "\x2f", 'b': "\x08", 'f': "\x0c", 'n': "\x0a", 'r': "\x0d", 't': "\x09"}
	for b := range 256 {
		body := "\\" + string([]byte{byte(b)})
		if meaning, ok := meanings[byte(b)]; ok {
			checkValue(t, body, meaning)
			checkValue(t, "a"+body+body+"a", "a"+meaning+meaning+"a")
			continue
		}
		checkInside(t, body, 0, api.ErrForm)
		checkInside(t, body+"\"", 0, api.ErrForm)
		if b != 'u' {
			checkInside(t, body+"0041\"", 0, api.ErrForm)
		}
	}
}

func TestTakeOfEachEscapeWithDigits(t *testing.T) {
	for n := range 1 << 16 {
		for _, body := range []string{`\u` + digitsOf(n), `\u` + strings.ToUpper(digitsOf(n))} {
			if n >= 0xd800 && n <= 0xdfff {
				checkInside(t, body+"\"", 0, api.ErrText)
				checkInside(t, body, 0, api.ErrText)
			} else {
				checkValue(t, body, string(rune(n)))
			}
		}
	}
}

func TestTakeOfEscapesWithWrongDigits(t *testing.T) {
	for _, digits := range []string{"", "1", "12", "123", "12g4", "g234", "1g34", "123g", "+123", "-123", "0x12", "1_23", " 123", "123 ", "\"", "\"123", "1\"23", "12\"3", "123\"", "\\u00", "\xff123", "123\xff", "\n123", "{41}", "d80", "D8"} {
		for _, tail := range []string{"", "\"", "\"0000\""} {
			checkInside(t, `\u`+digits+tail, 0, api.ErrForm)
			checkInside(t, `ab\n\u`+digits+tail, 4, api.ErrForm)
		}
	}
	for _, body := range []string{`\U0041"`, `\x41"`, `\101"`, `\u"`, `\`, `\u`, `\ u0041"`, `\'"`, `\0"`, `\a"`, `\v"`, `\e"`, `\N"`, `\T"`} {
		checkInside(t, body, 0, api.ErrForm)
	}
}

// TestTakeOfPairs has each first half with some second ones, and the other way round.
func TestTakeOfPairs(t *testing.T) {
	others := []int{0, 1, 2, 0x1ff, 0x200, 0x3fe, 0x3ff}
	check := func(upper, lower int) {
		want := string(rune(0x10000 + 0x400*(upper-0xd800) + lower - 0xdc00))
		checkValue(t, `\u`+digitsOf(upper)+`\u`+digitsOf(lower), want)
		checkValue(t, `\u`+strings.ToUpper(digitsOf(upper))+`\u`+digitsOf(lower), want)
		checkValue(t, `a\u`+digitsOf(upper)+`\u`+strings.ToUpper(digitsOf(lower))+`\n`, "a"+want+"\n")
	}
	for i := range 0x400 {
		for _, j := range others {
			check(0xd800+i, 0xdc00+j)
			check(0xd800+j, 0xdc00+i)
		}
	}
	checkValue(t, `\ud800\udc00`, "\xf0\x90\x80\x80")
	checkValue(t, `\udbff\udfff`, "\xf4\x8f\xbf\xbf")
	checkValue(t, `\ud800\udc00\udbff\udfff`, "\xf0\x90\x80\x80\xf4\x8f\xbf\xbf")
}

func TestTakeOfHalvesAlone(t *testing.T) {
	behindUpper := []string{"", "\"", "a\"", "\\", "\\\"", "\\u", "\\u\"", "\\udc0", "\\udc0\"", "\\udc0g\"", "\\n\"", "\\u0041\"", "\\ud800\"", "\\ud800\\udc00\"", "\\udbff\"", "\\ue000\"",
		"\\Udc00\"", "udc00\"", "\xed\xb0\x80\"", "\\\\udc00\"", " \\udc00\"", "\n\"", "\xff\"", "\\x\""}
	for _, upper := range []string{"d800", "d801", "dabc", "DBFE", "dbff"} {
		for _, tail := range behindUpper {
			checkInside(t, `\u`+upper+tail, 0, api.ErrText)
			checkInside(t, `ab\u`+upper+tail, 2, api.ErrText)
		}
	}
	for _, lower := range []string{"dc00", "DC01", "def0", "dfff"} {
		for _, tail := range append(behindUpper, `\udc00"`, `\udfff"`) {
			checkInside(t, `\u`+lower+tail, 0, api.ErrText)
			checkInside(t, `\ud800\udc00\u`+lower+tail, 12, api.ErrText)
		}
	}
	checkInside(t, `\u0041\udc00"`, 6, api.ErrText)
	checkInside(t, `\ud7ff\udc00"`, 6, api.ErrText)
	checkInside(t, `\ue000\udc00"`, 6, api.ErrText)
}

// TestTakeOfSeveralFaults has the leftmost one told, whichever it is.
func TestTakeOfSeveralFaults(t *testing.T) {
	faults := map[string]api.Errno{"\n": api.ErrForm, "\xff": api.ErrText, `\x`: api.ErrForm, `\ud800`: api.ErrText, `\u12`: api.ErrForm, "\xe2\x82": api.ErrText, `\udabc`: api.ErrText, "\x00": api.ErrForm}
	for first, e := range faults {
		for second := range faults {
			checkInside(t, first+second, 0, e)
			checkInside(t, "a"+first+"a"+second+"\"", 1, e)
			checkTake(t, "\"a\""+first+second, 0, "a", 3, api.OK)
		}
	}
}

func TestTakeOfEachPrefix(t *testing.T) {
	for _, s := range []string{`"stoplog"`, "\"a\xc3\xa9\xe2\x82\xac\xf4\x8f\xbf\xbf\"", `"\n\u0041\ud83d\ude00\\\"/"`, `"\uD83D\uDE00a"`, `"\\"`, `"\\\""`} {
		for end := range len(s) {
			want, next, e := unquoted(s[:end], 0)
			checkTake(t, s[:end], 0, want, next, e)
			if e == api.OK {
				t.Errorf("%q ends too soon", s[:end])
			}
		}
	}
	checkTake(t, `"\`, 0, "", 1, api.ErrForm)
	checkTake(t, `"\\`, 0, "", 3, api.ErrShort)
	checkTake(t, `"a\"`, 0, "", 4, api.ErrShort)
	checkTake(t, `"\u004`, 0, "", 1, api.ErrForm)
	checkTake(t, `"\u0041`, 0, "", 7, api.ErrShort)
	checkTake(t, `"`, 0, "", 1, api.ErrShort)
	checkTake(t, "\"\xc3\xa9", 0, "", 3, api.ErrShort)
	checkTake(t, "\"\xc3", 0, "", 1, api.ErrText)
}

// TestTakeOfStrings holds Take against the chapter's words for all strings of up to five pieces that matter.
func TestTakeOfStrings(t *testing.T) {
	pieces := []string{"", "\"", "\\", "u", "00e9", "d83d", "DE00", "\\ud83d", "\\ude00", "n", "/", "\n", "\x7f", "\xc3", "\xa9"}
	for _, a := range pieces {
		for _, b := range pieces {
			for _, c := range pieces {
				for _, d := range pieces {
					for _, f := range []string{"", "\"", "d", "\""} {
						s := "\"" + a + b + c + d + f
						want, next, e := unquoted(s, 0)
						checkTake(t, s, 0, want, next, e)
					}
					s := a + b + c + d
					for _, at := range []int{-1, 1, 2, len(s) - 1, len(s), len(s) + 1} {
						want, next, e := unquoted(s, at)
						checkTake(t, s, at, want, next, e)
					}
				}
			}
		}
	}
}

func TestTakeOfAllPairsOfBytes(t *testing.T) {
	for a := range 256 {
		for b := range 256 {
			s := "\"" + string([]byte{byte(a), byte(b)}) + "\""
			for at := range 2 {
				want, next, e := unquoted(s, at)
				checkTake(t, s, at, want, next, e)
			}
		}
	}
}

func TestTakeOfLongStrings(t *testing.T) {
	const times = 200000
	for body, piece := range map[string]string{"a": "a", "\xf4\x8f\xbf\xbf": "\xf4\x8f\xbf\xbf", `\n`: "\n", `\u00e9`: "\xc3\xa9", `\ud83d\ude00`: "\xf0\x9f\x98\x80"} {
		long, want := strings.Repeat(body, times), strings.Repeat(piece, times)
		checkTake(t, "\""+long+"\"", 0, want, len(long)+2, api.OK)
		checkTake(t, "\""+long, 0, "", len(long)+1, api.ErrShort)
		checkTake(t, "\""+long+"\n\"", 0, "", len(long)+1, api.ErrForm)
		checkTake(t, long+"\"a\""+long, len(long), "a", len(long)+3, api.OK)
	}
}

// P9.4

// randomText is some runes at random, half of them those that matter.
func randomText(random *rand.Rand) string {
	list := make([]rune, random.Intn(12))
	for i := range list {
		list[i] = runes()[random.Intn(len(runes()))]
		if random.Intn(2) == 0 {
			list[i] = rune(random.Intn(utf8.MaxRune+1)) >> random.Intn(21)
		}
	}
	return string(list) // what is no rune becomes one
}

func TestTakeUndoesPut(t *testing.T) {
	random := rand.New(rand.NewSource(1))
	for range 3000 {
		s := randomText(random)
		whole, e := Put(s)
		if e != api.OK {
			t.Errorf("Put(%q) is the error %d", s, e)
		}
		for _, front := range fronts() {
			for _, tail := range tails() {
				checkTake(t, front+whole+tail, len(front), s, len(front)+len(whole), api.OK)
			}
		}
	}
}

func TestTakeUndoesPutOfEachRune(t *testing.T) {
	for r := range rune(utf8.MaxRune + 1) {
		if utf8.ValidRune(r) {
			whole, _ := Put(string(r))
			checkTake(t, whole, 0, string(r), len(whole), api.OK)
		}
	}
}

// TestQuotedTextsAreJSON has another reader of JSON strings take what Put wrote.
func TestQuotedTextsAreJSON(t *testing.T) {
	random := rand.New(rand.NewSource(2))
	for range 20000 {
		s := randomText(random)
		whole, _ := Put(s)
		var got string
		if err := json.Unmarshal([]byte(whole), &got); err != nil || got != s {
			t.Errorf("Put(%q) is %q, which is read as %q, %v", s, whole, got, err)
		}
	}
}

// TestValuesAreTexts takes bytes at random: what is taken is a text, and JSON too.
func TestValuesAreTexts(t *testing.T) {
	random := rand.New(rand.NewSource(3))
	choice := []string{"a", "\xc3\xa9", "\xc3", "\xa9", "\xf0\x9f\x98\x80", "\x80", "\\", "\\u00e9", "\\ud83d", "\\ude00", "\\n", "\\\"", "\"", "\"", "\n", "\x7f"}
	taken := 0
	for range 200000 {
		s := "\""
		for range random.Intn(6) {
			s += choice[random.Intn(len(choice))]
		}
		value, next, e := Take(s, 0)
		if e != api.OK {
			continue
		}
		taken++
		var got string
		if err := json.Unmarshal([]byte(s[:next]), &got); !utf8.ValidString(value) || err != nil || got != value {
			t.Errorf("Take(%q, 0) is %q, where %q, %v are right", s, value, got, err)
		}
	}
	if taken < 10000 {
		t.Errorf("only %d strings were taken", taken)
	}
}

// R3

// shares tells whether part begins within the memory of whole.
func shares(part, whole string) bool {
	for i := range len(whole) {
		if unsafe.StringData(part) == unsafe.StringData(whole[i:]) {
			return true
		}
	}
	return false
}

func TestResultsShareNoMemoryWithArguments(t *testing.T) {
	s := strings.Repeat("stoplog", 10)
	whole, _ := Put(s)
	if shares(whole, s) || shares(s, whole) {
		t.Error("Put shares memory with its argument")
	}
	if back, _, _ := Take(whole, 0); back != s || shares(back, whole) {
		t.Error("Take shares memory with its argument")
	}
	single := `"s"`
	if back, _, _ := Take(single, 0); back != "s" || shares(back, single) {
		t.Error("Take of one byte shares memory with its argument")
	}
}
