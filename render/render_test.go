package render

import (
	"bytes"
	"encoding/hex"
	"encoding/json"
	"fmt"
	"math"
	"math/rand"
	"reflect"
	"slices"
	"strconv"
	"strings"
	"testing"
	"time"
	"unicode/utf8"
	"unsafe"

	"stoplog/api"
	"stoplog/grammar"
	"stoplog/parse"
	"stoplog/tree"
)

// Values, written shortly.

func null() api.Value                     { return api.Value{} }
func boolOf(n int64) api.Value            { return api.Value{Kind: 1, N: n} }
func numberOf(n int64) api.Value          { return api.Value{Kind: 2, N: n} }
func textOf(s string) api.Value           { return api.Value{Kind: 3, S: s} }
func listOf(items ...api.Value) api.Value { return api.Value{Kind: 4, Items: items} }

func objectOf(names string, items ...api.Value) api.Value {
	return api.Value{Kind: 5, Names: strings.Fields(names), Items: items}
}

// named is an object with one member.
func named(name string, item api.Value) api.Value {
	return api.Value{Kind: 5, Names: []string{name}, Items: []api.Value{item}}
}

// nested is v within that many lists or objects, in turn as the kinds say.
func nested(v api.Value, levels int, kinds string) api.Value {
	for i := range levels {
		if kinds[i%len(kinds)] == '{' {
			v = named("a", v)
		} else {
			v = listOf(v)
		}
	}
	return v
}

// What the functions must answer, by the chapters' own words.

// quotedOf goes byte by byte.
func quotedOf(s string) string {
	short := map[byte]string{'"': `\"`, '\\': `\\`, 8: `\b`, 9: `\t`, 10: `\n`, 12: `\f`, 13: `\r`}
	whole := `"`
	for _, b := range []byte(s) {
		switch {
		case short[b] != "":
			whole += short[b]
		case b < 32:
			whole += `\u00` + hex.EncodeToString([]byte{b})
		default:
			whole += string([]byte{b})
		}
	}
	return whole + `"`
}

// textsOf are the texts of v's items, or of its members.
func textsOf(v api.Value, textOf func(api.Value) string, colon string) []string {
	var texts []string
	for i, item := range v.Items {
		text := textOf(item)
		if v.Kind == 5 {
			text = quotedOf(v.Names[i]) + colon + text
		}
		texts = append(texts, text)
	}
	return texts
}

func plainOf(v api.Value) string {
	switch v.Kind {
	case 0:
		return "null"
	case 1:
		return [...]string{"false", "true"}[v.N]
	case 2:
		return fmt.Sprint(v.N)
	case 3:
		return quotedOf(v.S)
	case 4:
		return "[" + strings.Join(textsOf(v, plainOf, ""), ",") + "]"
	}
	return "{" + strings.Join(textsOf(v, plainOf, ":"), ",") + "}"
}

// linesOf is the text of v in lines. What is in brackets moves by two blanks as a whole: no text has a byte 10 but between its lines.
func linesOf(v api.Value) string {
	if len(v.Items) == 0 {
		return plainOf(v)
	}
	inner := strings.Join(textsOf(v, linesOf, ": "), ",\n")
	inner = "\n  " + strings.ReplaceAll(inner, "\n", "\n  ") + "\n"
	if v.Kind == 5 {
		return "{" + inner + "}"
	}
	return "[" + inner + "]"
}

func prettyOf(v api.Value) string { return linesOf(v) + "\n" }

// prettyFrom is what the library makes of a text without blanks.
func prettyFrom(plain string) string {
	var whole bytes.Buffer
	if err := json.Indent(&whole, []byte(plain), "", "  "); err != nil {
		panic(err)
	}
	return whole.String() + "\n"
}

// rightOf is the definition of a valid value.
func rightOf(v api.Value) bool { return rightWithin(v, 64) }

func rightWithin(v api.Value, levels int) bool {
	rest := v
	rest.Kind = 0
	switch v.Kind {
	case 0:
	case 1:
		if v.N != 0 && v.N != 1 {
			return false
		}
		rest.N = 0
	case 2:
		rest.N = 0
	case 3:
		if !utf8.ValidString(v.S) {
			return false
		}
		rest.S = ""
	case 4:
		rest.Items = nil
	case 5:
		if len(v.Names) != len(v.Items) {
			return false
		}
		for i, name := range v.Names {
			if !utf8.ValidString(name) || slices.Contains(v.Names[:i], name) {
				return false
			}
		}
		rest.Items, rest.Names = nil, nil
	default:
		return false
	}
	if v.Kind >= 4 && levels == 0 || rest.N != 0 || rest.S != "" || len(rest.Items) > 0 || len(rest.Names) > 0 {
		return false
	}
	for _, item := range v.Items {
		if !rightWithin(item, levels-1) {
			return false
		}
	}
	return true
}

// Checks of one value each.

func checkPut(t *testing.T, v api.Value, want string, wantE api.Errno) {
	t.Helper()
	if got, e := Put(v); got != want || e != wantE {
		t.Fatalf("Put(%s) = %s, %d, want %s, %d", brief(fmt.Sprint(v)), brief(got), e, brief(want), wantE)
	}
}

func checkPretty(t *testing.T, v api.Value, want string, wantE api.Errno) {
	t.Helper()
	if got, e := Pretty(v); got != want || e != wantE {
		t.Fatalf("Pretty(%s) = %s, %d, want %s, %d", brief(fmt.Sprint(v)), brief(got), e, brief(want), wantE)
	}
}

func checkRefused(t *testing.T, v api.Value) {
	t.Helper()
	checkPut(t, v, "", 1)
	checkPretty(t, v, "", 1)
}

// check holds both functions against what the chapter says of v, whatever v is.
func check(t *testing.T, v api.Value) {
	t.Helper()
	if !rightOf(v) {
		checkRefused(t, v)
		return
	}
	plain := plainOf(v)
	checkPut(t, v, plain, 0)
	checkPretty(t, v, prettyOf(v), 0)
	checkPretty(t, v, prettyFrom(plain), 0)
	checkBack(t, v)
}

// checkBack holds both texts of v, which is valid, against P14.3.
func checkBack(t *testing.T, v api.Value) {
	t.Helper()
	for _, form := range []func(api.Value) (string, api.Errno){Put, Pretty} {
		s, _ := form(v)
		back, at, e := parse.Parse(s)
		if !tree.Same(back, v) || at != 0 || e != api.OK {
			t.Fatalf("%s is parsed as %s, %d, %d", brief(s), brief(fmt.Sprint(back)), at, e)
		}
		if level := grammar.Level(s); level != tree.Depth(v) {
			t.Fatalf("%s has the level %d, of the depth %d", brief(s), level, tree.Depth(v))
		}
	}
}

// brief is s for a message.
func brief(s string) string {
	if len(s) > 300 {
		return strconv.Quote(s[:300]) + ".. of " + strconv.Itoa(len(s)) + " bytes"
	}
	return strconv.Quote(s)
}

// Values to be tried.

// ends are next to each limit that the chapters name, and where a number gets a digit more.
func ends() []int64 {
	all := []int64{math.MinInt64, math.MinInt64 + 1, math.MaxInt64, math.MaxInt64 - 1, 0}
	for _, n := range []int64{1, 2, 9, 10, 11, 99, 100, 101, 255, 256, 1000, 65535, 65536, 999999, 1000000, math.MaxInt32, math.MaxInt32 + 1, math.MaxUint32, math.MaxUint32 + 1, 1<<53 - 1, 1 << 53, 1<<53 + 1, 999999999999999999, 1000000000000000000} {
		all = append(all, n, -n)
	}
	return all
}

// texts have each byte that is below 128, runes of all lengths, and those that other programs like to escape.
func texts() []string {
	all := []string{"", "a", "ab", "null", "1", " ", "  ", "\n", "a\nb", "\n  ", ",\n", "[", "]", "{", "}", ":", ": ", ",", "\"", "\\", "\\\"", "\"\"", "\\n", "\\u0041", "//", "</script>", "&amp;", "'", "\r\n", "\x00\x00", "%s"}
	for b := range 128 {
		all = append(all, string([]byte{byte(b)}), "a"+string([]byte{byte(b)})+"a")
	}
	for _, r := range []rune{0x80, 0x85, 0x9f, 0xa0, 0xe9, 0x7ff, 0x800, 0x20ac, 0x2028, 0x2029, 0xd7ff, 0xe000, 0xfeff, 0xfffd, 0xfffe, 0xffff, 0x10000, 0x1f600, 0x10ffff} {
		all = append(all, string(r), string(r)+"\"", "\\"+string(r))
	}
	return all
}

// noTexts are strings that are not UTF-8.
func noTexts() []string {
	return []string{"\xff", "\x80", "\xbf", "\xc3", "\xc0\x80", "\xc1\xbf", "\xe2\x82", "\xe0\x80\x80", "\xed\xa0\x80", "\xed\xbf\xbf", "\xed\xa0\xbd\xed\xb8\x80", "\xf0\x90\x80", "\xf0\x80\x80\x80", "\xf4\x90\x80\x80", "\xf8\x88\x80\x80\x80", "a\xff", "\xffa", "\xc3\xa9\xa9"}
}

// wrong are values that are not valid by themselves.
func wrong() []api.Value {
	item := []api.Value{{}}
	all := []api.Value{
		{Kind: -1}, {Kind: 6}, {Kind: 7}, {Kind: 256}, {Kind: 260}, {Kind: math.MinInt}, {Kind: math.MaxInt}, {Kind: 1 << 32}, {Kind: 1<<32 + 4},
		{Kind: 1, N: 2}, {Kind: 1, N: -1}, {Kind: 1, N: 257}, {Kind: 1, N: 1<<32 + 1}, {Kind: 1, N: math.MinInt64},
		{Kind: 4, Names: []string{"a"}}, {Kind: 4, Items: item, Names: []string{"a"}}, {Kind: 4, Items: item, Names: []string{""}},
		{Kind: 5, Items: item}, {Kind: 5, Names: []string{"a"}}, {Kind: 5, Items: item, Names: []string{"a", "b"}}, {Kind: 5, Items: []api.Value{{}, {}}, Names: []string{"a"}},
		{Kind: 5, Items: []api.Value{{}, {}}, Names: []string{"a", "a"}}, {Kind: 5, Items: []api.Value{{}, {}, {}}, Names: []string{"a", "b", "a"}}, {Kind: 5, Items: []api.Value{{}, {}}, Names: []string{"", ""}},
	}
	for _, kind := range []int{0, 1, 3, 4, 5} {
		if kind != 1 {
			all = append(all, api.Value{Kind: kind, N: 1}, api.Value{Kind: kind, N: -1}, api.Value{Kind: kind, N: 1 << 40})
		}
		if kind != 3 {
			all = append(all, api.Value{Kind: kind, S: "a"}, api.Value{Kind: kind, S: "\x00"}, api.Value{Kind: kind, S: "\xff"})
		}
		if kind < 4 {
			all = append(all, api.Value{Kind: kind, Items: item}, api.Value{Kind: kind, Names: []string{""}}, api.Value{Kind: kind, Items: item, Names: []string{"a"}})
		}
	}
	all = append(all, api.Value{Kind: 2, S: "1"}, api.Value{Kind: 2, Items: item}, api.Value{Kind: 2, Names: []string{""}}, api.Value{Kind: 2, N: 5, S: "5"})
	for _, s := range noTexts() {
		all = append(all, textOf(s), named(s, null()))
	}
	return all
}

// someValue is a valid value that is at most so deep.
func someValue(random *rand.Rand, depth int) api.Value {
	kind := random.Intn(6)
	if depth == 0 {
		kind = random.Intn(4)
	}
	switch kind {
	case 0:
		return null()
	case 1:
		return boolOf(random.Int63n(2))
	case 2:
		return numberOf(int64(random.Uint64()) >> random.Intn(64))
	case 3:
		return textOf(someString(random))
	}
	v := api.Value{Kind: kind}
	for range random.Intn(5) {
		name := someString(random)
		if kind == 5 && slices.Contains(v.Names, name) {
			continue
		}
		if kind == 5 {
			v.Names = append(v.Names, name)
		}
		v.Items = append(v.Items, someValue(random, depth-1))
	}
	return v
}

func someString(random *rand.Rand) string {
	s := ""
	for range random.Intn(4) {
		s += [...]string{"a", "b", "é", "😀", "\n", "\x00", "\x7f", `"`, `\`, "/", " ", "[", "}", ":", ",", "1"}[random.Intn(16)]
	}
	return s
}

// spoil changes a field of v or of what is in it.
func spoil(random *rand.Rand, v *api.Value) {
	if len(v.Items) > 0 && random.Intn(3) > 0 {
		spoil(random, &v.Items[random.Intn(len(v.Items))])
		return
	}
	switch random.Intn(6) {
	case 0:
		v.Kind = random.Intn(9) - 1
	case 1:
		v.N = random.Int63n(5) - 2
	case 2:
		v.S = [...]string{"", "a", "\xff"}[random.Intn(3)]
	case 3:
		v.Names = append(v.Names, [...]string{"", "a", "\xff"}[random.Intn(3)])
	case 4:
		v.Items = append(v.Items, null())
	case 5:
		v.Items, v.Names = nil, nil
	}
}

// P14.1 and P14.2

func TestTheForms(t *testing.T) {
	cases := []struct {
		v      api.Value
		plain  string
		pretty string
	}{
		// the chapter's
		{objectOf("a", listOf(numberOf(1))), `{"a":[1]}`, "{\n  \"a\": [\n    1\n  ]\n}\n"},
		{listOf(listOf(), objectOf("")), "[[],{}]", "[\n  [],\n  {}\n]\n"},
		// without brackets
		{null(), "null", "null\n"}, {boolOf(1), "true", "true\n"}, {boolOf(0), "false", "false\n"},
		{numberOf(0), "0", "0\n"}, {numberOf(1), "1", "1\n"}, {numberOf(-1), "-1", "-1\n"}, {numberOf(10), "10", "10\n"}, {numberOf(-1234567890), "-1234567890", "-1234567890\n"},
		{numberOf(math.MaxInt64), "9223372036854775807", "9223372036854775807\n"}, {numberOf(math.MinInt64), "-9223372036854775808", "-9223372036854775808\n"},
		{textOf(""), `""`, "\"\"\n"}, {textOf("a"), `"a"`, "\"a\"\n"}, {textOf("null"), `"null"`, "\"null\"\n"}, {textOf(`"`), `"\""`, "\"\\\"\"\n"}, {textOf("\\\n\x1f\x7f/é<"), "\"\\\\\\n\\u001f\x7f/é<\"", "\"\\\\\\n\\u001f\x7f/é<\"\n"},
		// lists
		{listOf(), "[]", "[]\n"}, {listOf(null()), "[null]", "[\n  null\n]\n"}, {listOf(numberOf(3), numberOf(1), numberOf(1)), "[3,1,1]", "[\n  3,\n  1,\n  1\n]\n"},
		{listOf(textOf("a"), boolOf(0), boolOf(1), null()), `["a",false,true,null]`, "[\n  \"a\",\n  false,\n  true,\n  null\n]\n"},
		{listOf(listOf(listOf())), "[[[]]]", "[\n  [\n    []\n  ]\n]\n"}, {listOf(listOf(numberOf(1)), listOf(), listOf(numberOf(2), numberOf(3))), "[[1],[],[2,3]]", "[\n  [\n    1\n  ],\n  [],\n  [\n    2,\n    3\n  ]\n]\n"},
		// objects
		{objectOf(""), "{}", "{}\n"}, {objectOf("a", null()), `{"a":null}`, "{\n  \"a\": null\n}\n"}, {objectOf("b a", numberOf(1), numberOf(2)), `{"b":1,"a":2}`, "{\n  \"b\": 1,\n  \"a\": 2\n}\n"},
		{named("", textOf("")), `{"":""}`, "{\n  \"\": \"\"\n}\n"}, {named("\"\n", textOf(": ")), `{"\"\n":": "}`, "{\n  \"\\\"\\n\": \": \"\n}\n"},
		{objectOf("a", objectOf("")), `{"a":{}}`, "{\n  \"a\": {}\n}\n"}, {objectOf("a b", objectOf("a", objectOf("a", numberOf(0))), listOf()), `{"a":{"a":{"a":0}},"b":[]}`, "{\n  \"a\": {\n    \"a\": {\n      \"a\": 0\n    }\n  },\n  \"b\": []\n}\n"},
		// both
		{listOf(objectOf("a b", numberOf(1), listOf(null())), numberOf(2)), `[{"a":1,"b":[null]},2]`, "[\n  {\n    \"a\": 1,\n    \"b\": [\n      null\n    ]\n  },\n  2\n]\n"},
		{objectOf("a b c", listOf(), listOf(objectOf(""), objectOf("d", boolOf(1))), objectOf("")), `{"a":[],"b":[{},{"d":true}],"c":{}}`, "{\n  \"a\": [],\n  \"b\": [\n    {},\n    {\n      \"d\": true\n    }\n  ],\n  \"c\": {}\n}\n"},
	}
	for _, c := range cases {
		checkPut(t, c.v, c.plain, api.OK)
		checkPretty(t, c.v, c.pretty, api.OK)
		check(t, c.v)
	}
}

// The chapter counts the lines of two values.
func TestTheLines(t *testing.T) {
	for _, c := range []struct {
		v     api.Value
		lines int
	}{
		{listOf(listOf(), objectOf("")), 4}, {objectOf("a", listOf(numberOf(1))), 5}, {null(), 1}, {listOf(), 1}, {objectOf(""), 1}, {textOf("\n\n"), 1}, {named("\n", textOf("\n")), 3},
	} {
		s, e := Pretty(c.v)
		if got := strings.Count(s, "\n"); got != c.lines || e != api.OK {
			t.Errorf("%q has %d lines, want %d", s, got, c.lines)
		}
	}
}

func TestEveryNumber(t *testing.T) {
	for _, n := range ends() {
		v := numberOf(n)
		checkPut(t, v, strconv.FormatInt(n, 10), api.OK)
		for _, v := range []api.Value{v, listOf(v), listOf(v, v), named("a", v)} {
			check(t, v)
		}
	}
}

func TestEveryText(t *testing.T) {
	all := texts()
	for _, s := range all {
		for _, v := range []api.Value{textOf(s), listOf(textOf(s)), named(s, null()), named(s, textOf(s)), listOf(named(s, listOf(textOf(s), textOf(s))))} {
			check(t, v)
		}
	}
	object := api.Value{Kind: 5}
	for i, s := range all {
		if !slices.Contains(object.Names, s) {
			object.Names = append(object.Names, s)
			object.Items = append(object.Items, textOf(all[len(all)-1-i]))
		}
	}
	check(t, object) // names in no order stay as they are
	check(t, listOf(object, object))
}

func TestEveryRune(t *testing.T) {
	var all strings.Builder
	for r := range utf8.MaxRune + 1 {
		if utf8.ValidRune(r) {
			all.WriteRune(r)
		}
	}
	v := named(all.String(), textOf(all.String()))
	want := all.String()
	for r := range ' ' {
		want = strings.Replace(want, string(r), strings.Trim(quotedOf(string(r)), `"`), 1)
	}
	want = `"` + strings.NewReplacer(`!"#`, `!\"#`, `[\]`, `[\\]`).Replace(want) + `"`
	checkPut(t, v, "{"+want+":"+want+"}", api.OK)
	checkPretty(t, v, "{\n  "+want+": "+want+"\n}\n", api.OK)
	checkBack(t, v)
}

// simple are values of each kind, small.
func simple() []api.Value {
	return []api.Value{null(), boolOf(0), boolOf(1), numberOf(0), numberOf(-1), textOf(""), textOf("a"), listOf(), objectOf(""), listOf(null()), objectOf("a", null())}
}

func TestEverySmallValue(t *testing.T) {
	for _, a := range simple() {
		for _, v := range []api.Value{a, listOf(a), objectOf("a", a)} {
			check(t, v)
		}
		for _, b := range simple() {
			for _, v := range []api.Value{listOf(a, b), objectOf("a b", a, b), objectOf("b a", a, b), listOf(listOf(a), b), listOf(a, listOf(b)), listOf(objectOf("a", a), b), objectOf("a b", a, objectOf("a", b)), objectOf("a b", listOf(a), b)} {
				check(t, v)
			}
			for _, c := range simple() {
				check(t, listOf(a, b, c))
				check(t, objectOf("c a b", a, b, c))
				check(t, objectOf("a b", listOf(a, b), objectOf("a b", b, c)))
			}
		}
	}
}

func TestRandomValues(t *testing.T) {
	random := rand.New(rand.NewSource(141))
	for range 10000 {
		check(t, someValue(random, random.Intn(6)))
	}
}

// P14.1 and P14.2: what is not valid

func TestWrongValues(t *testing.T) {
	for _, v := range wrong() {
		if rightOf(v) {
			t.Fatalf("%+v is valid", v)
		}
		for _, v := range []api.Value{v, listOf(v), listOf(null(), v), listOf(v, null()), named("a", v), objectOf("a b c", null(), v, null()), listOf(objectOf("a b", listOf(null()), listOf(listOf(v))))} {
			checkRefused(t, v)
		}
		for _, kinds := range []string{"[", "{", "[{"} {
			checkRefused(t, nested(v, 62, kinds))
		}
	}
}

// Each field with each kind: which of them may be set hangs on the kind alone.
func TestEveryFieldOfEveryKind(t *testing.T) {
	for kind := -1; kind <= 7; kind++ {
		for _, n := range []int64{0, 1, 2, -1, 256, 1 << 32, math.MaxInt64, math.MinInt64} {
			for _, s := range []string{"", "a", "\x00", "é", "\xff"} {
				for _, items := range [][]api.Value{nil, {}, {{}}, {{}, {Kind: 4}}, {{Kind: 6}}, {{Kind: 1, N: 2}, {}}} {
					for _, names := range [][]string{nil, {}, {""}, {"a"}, {"b", "a"}, {"a", "a"}, {"\xc3"}, {"a", "\xff"}} {
						check(t, api.Value{Kind: kind, N: n, S: s, Items: items, Names: names})
					}
				}
			}
		}
	}
}

func TestSpoiltValues(t *testing.T) {
	random := rand.New(rand.NewSource(142))
	for range 20000 {
		v := someValue(random, random.Intn(5))
		spoil(random, &v)
		check(t, v)
	}
}

// P14.1 and P14.2: depth

func TestTheGreatestDepth(t *testing.T) {
	for _, kinds := range []string{"[", "{", "[{", "{[", "[[{"} {
		for _, v := range []api.Value{null(), textOf("\n"), numberOf(-1)} {
			for levels := range 65 {
				check(t, nested(v, levels, kinds))
			}
			for _, levels := range []int{65, 66, 128, 1000, 65535} {
				checkRefused(t, nested(v, levels, kinds))
				checkRefused(t, listOf(null(), nested(v, levels, kinds), null()))
			}
		}
		for _, v := range []api.Value{listOf(), objectOf(""), listOf(null(), null()), objectOf("a b", null(), null())} {
			check(t, nested(v, 62, kinds))
			check(t, nested(v, 63, kinds))
			checkRefused(t, nested(v, 64, kinds))
			checkRefused(t, nested(v, 65, kinds))
		}
	}
	many := listOf()
	for range 100 {
		many.Items = append(many.Items, nested(null(), 63, "[{"), listOf(), objectOf("a", nested(listOf(), 61, "{")))
	}
	check(t, many)
}

func TestTheDeepestLines(t *testing.T) {
	s, e := Pretty(nested(numberOf(7), 64, "["))
	lines := strings.Split(s, "\n")
	if e != api.OK || len(lines) != 130 || lines[129] != "" {
		t.Fatalf("%d, %d lines", e, len(lines))
	}
	for i := range 64 {
		if blanks := strings.Repeat("  ", i); lines[i] != blanks+"[" || lines[128-i] != blanks+"]" {
			t.Errorf("the lines %d from both ends are %q and %q", i, lines[i], lines[128-i])
		}
	}
	if lines[64] != strings.Repeat(" ", 128)+"7" {
		t.Errorf("the innermost line is %q", lines[64])
	}
}

// A value that holds itself is deeper than any.
func TestAValueWithinItself(t *testing.T) {
	list := listOf(null(), null())
	list.Items[0] = list
	list.Items[1] = list
	object := objectOf("a b", null(), null())
	object.Items[1] = object
	for _, v := range []api.Value{list, object, listOf(object), listOf(null(), list)} {
		for name, form := range map[string]func(api.Value) (string, api.Errno){"Put": Put, "Pretty": Pretty} {
			if s, e := form(v); s != "" || e != api.ErrArg {
				t.Errorf("%s = %s, %d", name, brief(s), e)
			}
		}
	}
}

// A value that stands at several places is written at each of them.
func TestAValueAtSeveralPlaces(t *testing.T) {
	v := objectOf("a b", numberOf(1), textOf("x"))
	for range 8 {
		v = listOf(v, v, objectOf("c d", v, listOf()))
	}
	check(t, v)
}

// P14.3

func TestDifferentValuesHaveDifferentTexts(t *testing.T) {
	random := rand.New(rand.NewSource(143))
	all := append(simple(), twins()...)
	for _, s := range texts() {
		all = append(all, textOf(s), named(s, null()), named("a", textOf(s)), listOf(textOf(s)))
	}
	for _, n := range ends() {
		all = append(all, numberOf(n), textOf(strconv.FormatInt(n, 10)), listOf(numberOf(n)))
	}
	for range 5000 {
		all = append(all, someValue(random, random.Intn(4)))
	}
	plain, pretty := map[string]api.Value{}, map[string]api.Value{}
	for _, v := range all {
		checkNew(t, plain, Put, v)
		checkNew(t, pretty, Pretty, v)
	}
}

// twins are values that are easily written alike.
func twins() []api.Value {
	return []api.Value{
		textOf("null"), textOf("true"), textOf("0"), textOf("[]"), textOf("{}"), textOf("[null]"), textOf(`{"a":null}`), textOf(`""`),
		listOf(numberOf(1), numberOf(2)), listOf(numberOf(12)), listOf(textOf("1,2")), listOf(textOf("1"), textOf("2")), listOf(textOf(`1","2`)), listOf(listOf(numberOf(1)), numberOf(2)), listOf(listOf(numberOf(1), numberOf(2))), listOf(numberOf(2), numberOf(1)),
		objectOf("a b", numberOf(1), numberOf(2)), objectOf("b a", numberOf(2), numberOf(1)), objectOf("b a", numberOf(1), numberOf(2)), named(`a":1,"b`, numberOf(2)), named("a", objectOf("b", numberOf(1))), listOf(objectOf("a", numberOf(1)), objectOf("b", numberOf(2))),
		textOf("\n"), textOf(`\n`), textOf("\x00"), textOf(`\u0000`), textOf("/"), textOf(`\/`), textOf("é"), textOf(`\u00e9`), textOf("e\u0301"), textOf("\ufeffa"), textOf("\ufffd"),
		listOf(listOf(), listOf()), listOf(listOf(listOf())), listOf(listOf(), objectOf("")), objectOf("a", listOf()), objectOf("a", objectOf("")),
	}
}

// checkNew holds the text of v against those that are there already, and puts it there.
func checkNew(t *testing.T, seen map[string]api.Value, form func(api.Value) (string, api.Errno), v api.Value) {
	t.Helper()
	s, e := form(v)
	if e != api.OK {
		t.Fatalf("%+v: %d", v, e)
	}
	if other, ok := seen[s]; ok && !tree.Same(v, other) {
		t.Fatalf("%+v and %+v both have the text %s", v, other, brief(s))
	}
	seen[s] = v
}

func TestWhatIsWrittenIsParsedBack(t *testing.T) {
	random := rand.New(rand.NewSource(144))
	for range 3000 {
		v := nested(someValue(random, 4), random.Intn(61), [...]string{"[", "{", "[{"}[random.Intn(3)])
		checkBack(t, v)
	}
}

// R1: a value twice as great may take twice as long: a way that takes four times as long would be at it for minutes.
func TestGreatValuesEnd(t *testing.T) {
	begun := time.Now()
	size := 1 << 17
	list, object := listOf(), objectOf("")
	for i := range size {
		list.Items = append(list.Items, numberOf(int64(i)))
		object.Items = append(object.Items, textOf(strconv.Itoa(size-i)))
		object.Names = append(object.Names, strconv.Itoa(i))
	}
	for _, v := range []api.Value{list, object, textOf(strings.Repeat("\n", size)), named(strings.Repeat("\"", size), null())} {
		for _, levels := range []int{0, 63} {
			deep := nested(v, min(levels, 64-tree.Depth(v)), "[{")
			plain, e := Put(deep)
			if e != api.OK || plain != compactOf(plain) {
				t.Fatalf("Put: %d, %s", e, brief(plain))
			}
			checkPretty(t, deep, prettyFrom(plain), api.OK)
			checkBack(t, deep)
		}
		v.Items = append(slices.Clone(v.Items), api.Value{Kind: 6})
		checkWrongQuickly(t, v)
	}
	if took := time.Since(begun); took > time.Minute {
		t.Errorf("it took %v", took)
	}
}

func compactOf(s string) string {
	var whole bytes.Buffer
	if err := json.Compact(&whole, []byte(s)); err != nil {
		panic(err)
	}
	return whole.String()
}

// checkWrongQuickly is checkRefused without the value in its message, which would be great.
func checkWrongQuickly(t *testing.T, v api.Value) {
	t.Helper()
	plain, e := Put(v)
	pretty, f := Pretty(v)
	if plain != "" || pretty != "" || e != api.ErrArg || f != api.ErrArg {
		t.Fatalf("%s, %d, %s, %d", brief(plain), e, brief(pretty), f)
	}
}

// R3

func TestTheArgumentStaysAsItIs(t *testing.T) {
	random := rand.New(rand.NewSource(145))
	for range 2000 {
		v := roomy(someValue(random, 5))
		if random.Intn(4) == 0 {
			spoil(random, &v)
		}
		before := copyOf(v)
		Put(v)
		Pretty(v)
		if !reflect.DeepEqual(before, copyOf(v)) {
			t.Fatalf("%+v was %+v", v, before)
		}
	}
}

// roomy is v with something behind the end of each of its lists.
func roomy(v api.Value) api.Value {
	items, names := make([]api.Value, 0, len(v.Items)+2), make([]string, 0, len(v.Names)+2)
	for _, item := range v.Items {
		items = append(items, roomy(item))
	}
	names = append(names, v.Names...)
	_ = append(items, textOf("behind"), numberOf(7))
	_ = append(names, "behind", "z")
	v.Items, v.Names = items, names
	return v
}

// copyOf is v with what stands behind the ends of its lists.
func copyOf(v api.Value) api.Value {
	var items []api.Value
	for _, item := range v.Items[:cap(v.Items)] {
		items = append(items, copyOf(item))
	}
	v.Items, v.Names = items, slices.Clone(v.Names[:cap(v.Names)])
	return v
}

func TestAnAnswerIsNewMemory(t *testing.T) {
	random := rand.New(rand.NewSource(146))
	for range 2000 {
		v := someValue(random, 4)
		plain, _ := Put(v)
		pretty, _ := Pretty(v)
		if shares(plain, pretty) {
			t.Fatalf("the texts of %+v share memory", v)
		}
		eachValue(v, func(v api.Value) {
			for _, s := range append([]string{v.S}, v.Names...) {
				if shares(s, plain) || shares(s, pretty) || shares(plain, s) || shares(pretty, s) {
					t.Fatalf("a text of %+v shares memory with it", v)
				}
			}
		})
	}
}

func eachValue(v api.Value, visit func(api.Value)) {
	for _, item := range v.Items {
		eachValue(item, visit)
	}
	visit(v)
}

// shares tells whether a begins within the memory of s.
func shares(a, s string) bool {
	if a == "" || s == "" {
		return false
	}
	first, at := uintptr(unsafe.Pointer(unsafe.StringData(s))), uintptr(unsafe.Pointer(unsafe.StringData(a)))
	return at >= first && at < first+uintptr(len(s))
}

// Nil and empty lists are equivalent.
func TestNilAndEmptyListsAreOne(t *testing.T) {
	for kind := range 6 {
		bare := api.Value{Kind: kind}
		full := api.Value{Kind: kind, Items: []api.Value{}, Names: []string{}}
		for _, v := range []api.Value{full, {Kind: kind, Items: []api.Value{}}, {Kind: kind, Names: []string{}}} {
			check(t, v)
			check(t, listOf(v, bare))
			checkPut(t, v, plainOf(bare), api.OK)
			checkPretty(t, v, prettyOf(bare), api.OK)
		}
	}
}

// R4

func TestTheSameAnswerAgain(t *testing.T) {
	random := rand.New(rand.NewSource(147))
	var all []api.Value
	for range 500 {
		v := someValue(random, 5)
		if random.Intn(4) == 0 {
			spoil(random, &v)
		}
		all = append(all, v)
	}
	type answer struct {
		plain, pretty string
		e, f          api.Errno
	}
	ask := func(v api.Value) answer {
		plain, e := Put(v)
		pretty, f := Pretty(v)
		return answer{plain, pretty, e, f}
	}
	var answers []answer
	for _, v := range all {
		answers = append(answers, ask(v))
	}
	for i := range all {
		i = len(all) - 1 - i
		if got := ask(all[i]); got != answers[i] {
			t.Fatalf("%+v: %+v, ahead of that %+v", all[i], got, answers[i])
		}
	}
}
