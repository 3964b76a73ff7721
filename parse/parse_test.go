package parse

import (
	"encoding/json"
	"fmt"
	"math"
	"math/big"
	"math/rand"
	"regexp"
	"slices"
	"strconv"
	"strings"
	"testing"
	"time"
	"unsafe"

	"stoplog/api"
	"stoplog/grammar"
	"stoplog/lex"
	"stoplog/quote"
	"stoplog/tree"
)

// The chapter's numbers of the errors.
const (
	short    = api.Errno(3)
	form     = api.Errno(4)
	tooGreat = api.Errno(6)
	more     = api.Errno(7)
	text     = api.Errno(8)
	deep     = api.Errno(10)
	twice    = api.Errno(11)
	fraction = api.Errno(18)
)

// faultOf says what the chapter says, by its own words: token by token, each of the errors in their order. It takes what the grammar allows from package grammar.
func faultOf(s string) (int, api.Errno) {
	ends := ""                     // what closes the open brackets, the innermost first
	names := []map[string]bool{{}} // of the open brackets, the innermost last
	for at, complete := 0, false; ; {
		token, e := lex.Next(s, at)
		switch {
		case e != api.OK:
			return token.At, e
		case complete && token.Kind == api.TEnd:
			return 0, api.OK
		case complete:
			return token.At, more
		case token.Kind == api.TEnd:
			return len(s), short
		}
		at = token.At + token.Size
		switch token.Kind {
		case api.TOpen, api.TBegin:
			ends = map[int]string{api.TOpen: "}", api.TBegin: "]"}[token.Kind] + ends
			names = append(names, map[string]bool{})
		case api.TClose, api.TEnds:
			ends = ends[min(1, len(ends)):]
			names = names[:max(1, len(names)-1)]
		}
		if !goesOn(s[:at], ends) {
			return token.At, form
		}
		if len(ends) == 65 {
			return token.At, deep
		}
		if token.Kind == api.TText && grammar.Level(s[:at]+":0"+ends) >= 0 {
			innermost := names[len(names)-1]
			if innermost[token.S] {
				return token.At, twice
			}
			innermost[token.S] = true
		}
		complete = grammar.Level(s[:at]) >= 0
	}
}

// goesOn tells whether some text of a value begins with s, of whose open brackets the ends are known.
func goesOn(s, ends string) bool {
	for _, between := range []string{"", " 0", `"":0`, ":0"} {
		if grammar.Level(s+between+ends) >= 0 {
			return true
		}
	}
	return false
}

// valueOf is the value that the library reads from s, which is JSON.
func valueOf(s string) api.Value {
	d := json.NewDecoder(strings.NewReader(s))
	d.UseNumber()
	return valueFrom(d, tokenFrom(d))
}

func tokenFrom(d *json.Decoder) json.Token {
	token, err := d.Token()
	if err != nil {
		panic(err)
	}
	return token
}

func valueFrom(d *json.Decoder, token json.Token) api.Value {
	switch x := token.(type) {
	case nil:
		return api.Value{Kind: 0}
	case bool:
		return api.Value{Kind: 1, N: map[bool]int64{false: 0, true: 1}[x]}
	case json.Number:
		n, ok := new(big.Int).SetString(string(x), 10)
		if !ok || !n.IsInt64() {
			panic(x)
		}
		return api.Value{Kind: 2, N: n.Int64()}
	case string:
		return api.Value{Kind: 3, S: x}
	}
	v := api.Value{Kind: 4}
	if token == json.Delim('{') {
		v.Kind = 5
	}
	for d.More() {
		if v.Kind == 5 {
			v.Names = append(v.Names, tokenFrom(d).(string))
		}
		v.Items = append(v.Items, valueFrom(d, tokenFrom(d)))
	}
	tokenFrom(d)
	return v
}

func same(a, b api.Value) bool {
	return a.Kind == b.Kind && a.N == b.N && a.S == b.S && slices.Equal(a.Names, b.Names) && slices.EqualFunc(a.Items, b.Items, same)
}

// Checks of one string each.

func checkFault(t *testing.T, s string, at int, e api.Errno) {
	t.Helper()
	v, got, f := Parse(s)
	if got != at || f != e {
		t.Fatalf("Parse(%s) = .., %d, %d, want %d, %d", brief(s), got, f, at, e)
	}
	if e != api.OK && !same(v, api.Value{}) {
		t.Fatalf("Parse(%s) = %+v beside the error %d", brief(s), v, e)
	}
}

func checkValue(t *testing.T, s string, want api.Value) {
	t.Helper()
	v, at, e := Parse(s)
	if !same(v, want) || at != 0 || e != api.OK {
		t.Fatalf("Parse(%s) = %s, %d, %d, want %s", brief(s), brief(fmt.Sprint(v)), at, e, brief(fmt.Sprint(want)))
	}
}

// check holds Parse against what the chapter says of s, whatever s is.
func check(t *testing.T, s string) {
	t.Helper()
	at, e := faultOf(s)
	checkFault(t, s, at, e)
	if e == api.OK {
		checkValue(t, s, valueOf(s))
	}
	checkConsequences(t, s)
}

var integers = regexp.MustCompile(`-?[0-9]+`)

// checkConsequences holds Parse against P13.2.
func checkConsequences(t *testing.T, s string) {
	t.Helper()
	v, at, e := Parse(s)
	if at < 0 || at > len(s) {
		t.Fatalf("Parse(%s): the offset of the fault %d is %d", brief(s), e, at)
	}
	if want := grammar.Is(s) && numbersFit(s) && namesDiffer(s); (e == api.OK) != want {
		t.Fatalf("Parse(%s) = .., %d, %d, but that it has a value is %t", brief(s), at, e, want)
	}
	if e == api.OK && (!tree.Right(v) || tree.Depth(v) != grammar.Level(s)) {
		t.Fatalf("Parse(%s) = %+v: valid %t, depth %d, level %d", brief(s), v, tree.Right(v), tree.Depth(v), grammar.Level(s))
	}
}

var quoted = regexp.MustCompile(`"(?:[^"\\]|\\.)*"`)

// numbersFit tells of JSON whether all its numbers have room.
func numbersFit(s string) bool {
	for _, digits := range integers.FindAllString(quoted.ReplaceAllString(s, ""), -1) {
		if _, err := strconv.ParseInt(digits, 10, 64); err != nil {
			return false
		}
	}
	return true
}

// namesDiffer tells of JSON whether the names of each object do.
func namesDiffer(s string) bool {
	d := json.NewDecoder(strings.NewReader(s))
	d.UseNumber()
	var differ func(json.Token) bool
	differ = func(token json.Token) bool {
		if _, ok := token.(json.Delim); !ok {
			return true
		}
		all, names := true, map[string]bool{}
		for d.More() {
			if token == json.Delim('{') {
				name := tokenFrom(d).(string)
				all = all && !names[name]
				names[name] = true
			}
			all = differ(tokenFrom(d)) && all
		}
		tokenFrom(d)
		return all
	}
	return differ(tokenFrom(d))
}

// brief is s for a message.
func brief(s string) string {
	if len(s) > 300 {
		return strconv.Quote(s[:300]) + ".. of " + strconv.Itoa(len(s)) + " bytes"
	}
	return strconv.Quote(s)
}

// eachString calls visit with every string of at most size of the letters.
func eachString(letters []string, size int, visit func(string)) {
	var grow func(s string, left int)
	grow = func(s string, left int) {
		visit(s)
		if left == 0 {
			return
		}
		for _, letter := range letters {
			grow(s+letter, left-1)
		}
	}
	grow("", size)
}

// nested is s within that many lists or objects, in turn as the kinds say.
func nested(s string, levels int, kinds string) string {
	ahead, behind := opened(levels, kinds), make([]string, levels)
	for i := range levels {
		behind[levels-1-i] = "]"
		if kinds[i%len(kinds)] == '{' {
			behind[levels-1-i] = "}"
		}
	}
	return ahead + s + strings.Join(behind, "")
}

// opened is what nested writes ahead of s.
func opened(levels int, kinds string) string {
	ahead := make([]string, levels)
	for i := range levels {
		ahead[i] = "["
		if kinds[i%len(kinds)] == '{' {
			ahead[i] = `{"a":`
		}
	}
	return strings.Join(ahead, "")
}

// Values in short.
var null = api.Value{Kind: 0}

func boolOf(n int64) api.Value            { return api.Value{Kind: 1, N: n} }
func numberOf(n int64) api.Value          { return api.Value{Kind: 2, N: n} }
func textOf(s string) api.Value           { return api.Value{Kind: 3, S: s} }
func listOf(items ...api.Value) api.Value { return api.Value{Kind: 4, Items: items} }

func objectOf(names string, items ...api.Value) api.Value {
	return api.Value{Kind: 5, Names: strings.Fields(names), Items: items}
}

// samples are texts of values with everything that there is.
var samples = []string{
	"null", "true", "false", "0", "-0", "-10", "907", "9223372036854775807", `""`, `"a"`, `"\"\\\u00e9"`, `"[{,:"`,
	"[]", "{}", "[ ]", "{\t}", "[1]", "[null,true]", `["a","a"]`, "[[],[]]", "[-0,{}]", "[ 1 , 2 ]",
	`{"a":1}`, `{"a":1,"b":[2]}`, `{ "a" : 1 , "b" : 2 }`, `{"":{"":{}}}`, `{"a":[],"b":false}`, `[{"a":[[1]]},"b",{"a":"a"}]`,
}

// P13.1: values

func TestValues(t *testing.T) {
	cases := []struct {
		s string
		v api.Value
	}{
		{"null", null}, {"true", boolOf(1)}, {"false", boolOf(0)}, {" null\n", null},
		{"0", numberOf(0)}, {"-0", numberOf(0)}, {"1", numberOf(1)}, {"-1", numberOf(-1)}, {"1234567890", numberOf(1234567890)},
		{"9223372036854775807", numberOf(math.MaxInt64)}, {"-9223372036854775808", numberOf(math.MinInt64)},
		{`""`, textOf("")}, {`"a"`, textOf("a")}, {`"null"`, textOf("null")}, {`"\u00e9\n\ud83d\ude00"`, textOf("\xc3\xa9\x0a\xf0\x9f\x98\x80")}, {`"\u0000"`, textOf("\x00")}, {`" a "`, textOf(" a ")}, {`"\/\\\""`, textOf(`/\"`)},
		{"[]", listOf()}, {"[ \t\n\r]", listOf()}, {"[null]", listOf(null)}, {"[false]", listOf(boolOf(0))}, {"[1,2,3]", listOf(numberOf(1), numberOf(2), numberOf(3))}, {"[3,1,2]", listOf(numberOf(3), numberOf(1), numberOf(2))}, {"[1,1]", listOf(numberOf(1), numberOf(1))},
		{"[[]]", listOf(listOf())}, {"[[1],[],[2,3]]", listOf(listOf(numberOf(1)), listOf(), listOf(numberOf(2), numberOf(3)))}, {`["a",true,null,{}]`, listOf(textOf("a"), boolOf(1), null, objectOf(""))}, {"[{},{}]", listOf(objectOf(""), objectOf(""))},
		{"{}", objectOf("")}, {"{ \t\n\r}", objectOf("")}, {`{"a":1}`, objectOf("a", numberOf(1))}, {`{"a":null}`, objectOf("a", null)}, {`{"b":1,"a":2}`, objectOf("b a", numberOf(1), numberOf(2))}, {`{"a":2,"b":1}`, objectOf("a b", numberOf(2), numberOf(1))},
		{`{"":true}`, api.Value{Kind: 5, Names: []string{""}, Items: []api.Value{boolOf(1)}}}, {`{"c":"c","a":"a","b":"b"}`, objectOf("c a b", textOf("c"), textOf("a"), textOf("b"))},
		{`{"a":{"a":{"a":0}}}`, objectOf("a", objectOf("a", objectOf("a", numberOf(0))))}, {`{"a":{"b":1},"b":{"a":2}}`, objectOf("a b", objectOf("b", numberOf(1)), objectOf("a", numberOf(2)))}, {`[{"a":1},{"a":2}]`, listOf(objectOf("a", numberOf(1)), objectOf("a", numberOf(2)))},
		{`{"a":"a","A":"a","\u00e9":[]}`, objectOf("a A \xc3\xa9", textOf("a"), textOf("a"), listOf())}, {"\t{ \"a\"\n:\r[ 1 ,\t2 ] , \"b\" : \"b\" }\n", objectOf("a b", listOf(numberOf(1), numberOf(2)), textOf("b"))},
		{`{"a":[{"b":[-1]}],"c":null}`, objectOf("a c", listOf(objectOf("b", listOf(numberOf(-1)))), null)}, {`{"a":[],"b":{},"c":1}`, objectOf("a b c", listOf(), objectOf(""), numberOf(1))}, {`{"{":"}","[":"]",",":":"}`, objectOf("{ [ ,", textOf("}"), textOf("]"), textOf(":"))},
		{"[1,true]", listOf(numberOf(1), boolOf(1))}, {`["a",5,"",0,false]`, listOf(textOf("a"), numberOf(5), textOf(""), numberOf(0), boolOf(0))},
	}
	for _, c := range cases {
		checkValue(t, c.s, c.v)
		check(t, c.s)
	}
}

// P13.1: faults

func TestFaults(t *testing.T) {
	cases := []struct {
		s  string
		at int
		e  api.Errno
	}{
		// the chapter's
		{"", 0, short}, {"[1 2", 3, form}, {"1]", 1, more}, {"[1.5]", 1, fraction}, {`{"a":1,"a":2}`, 7, twice},
		// the string ends
		{" ", 1, short}, {" \t\n\r", 4, short}, {"[", 1, short}, {"[ ", 2, short}, {"[1", 2, short}, {"[1 ", 3, short}, {"[1,", 3, short}, {"[1, ", 4, short}, {"[[]", 3, short}, {"[[", 2, short}, {"[{", 2, short}, {"[{}", 3, short}, {"[{},", 4, short},
		{"{", 1, short}, {"{ ", 2, short}, {`{"a"`, 4, short}, {`{"a" `, 5, short}, {`{"a":`, 5, short}, {`{"a": `, 6, short}, {`{"a":1`, 6, short}, {`{"a":1 `, 7, short}, {`{"a":1,`, 7, short}, {`{"a":1, `, 8, short}, {`{"a":1,"b"`, 10, short}, {`{"a":1,"b":`, 11, short}, {`{"a":[`, 6, short}, {`{"a":{}`, 7, short},
		{`"`, 1, short}, {`"a`, 2, short}, {` "a`, 3, short}, {`["a`, 3, short}, {`["a]`, 4, short}, {`{"a`, 3, short}, {`{"a:1}`, 6, short}, {`{"a":"b}`, 8, short},
		// tokens that are not allowed
		{"]", 0, form}, {"}", 0, form}, {":", 0, form}, {",", 0, form}, {" ,", 1, form}, {",1", 0, form}, {"}{", 0, form}, {"][", 0, form},
		{"[,", 1, form}, {"[,]", 1, form}, {"[ ,1]", 2, form}, {"[:]", 1, form}, {"[}", 1, form}, {"[1,]", 3, form}, {"[1, ]", 4, form}, {"[1,,2]", 3, form}, {"[1,:", 3, form}, {"[1,}", 3, form}, {"[1 2]", 3, form}, {"[1:2]", 2, form}, {"[1}", 2, form}, {`["a" "b"]`, 5, form}, {`["a":1]`, 4, form}, {"[1[", 2, form}, {"[1{", 2, form}, {"[[]1]", 3, form}, {"[[][]]", 3, form}, {"[{}{}]", 3, form}, {"[null null]", 6, form}, {"[nullnull]", 5, form}, {"[truefalse]", 5, form}, {"[1true]", 2, form},
		{"{1", 1, form}, {"{1:1}", 1, form}, {"{]", 1, form}, {"{,", 1, form}, {"{:", 1, form}, {"{{", 1, form}, {"{[", 1, form}, {"{null:1}", 1, form}, {"{true", 1, form}, {"{ false", 2, form}, {"{{}}", 1, form},
		{`{"a"1`, 4, form}, {`{"a" 1`, 5, form}, {`{"a"}`, 4, form}, {`{"a",`, 4, form}, {`{"a"]`, 4, form}, {`{"a""b"`, 4, form}, {`{"a"[`, 4, form}, {`{"a"{`, 4, form}, {`{"a"null`, 4, form},
		{`{"a":}`, 5, form}, {`{"a":]`, 5, form}, {`{"a":,`, 5, form}, {`{"a"::`, 5, form}, {`{"a": :1}`, 6, form},
		{`{"a":1]`, 6, form}, {`{"a":1:`, 6, form}, {`{"a":1 "b":2}`, 7, form}, {`{"a":1"b"`, 6, form}, {`{"a":1 2}`, 7, form}, {`{"a":1[`, 6, form}, {`{"a":1{`, 6, form}, {`{"a":"b":1}`, 8, form},
		{`{"a":1,}`, 7, form}, {`{"a":1, }`, 8, form}, {`{"a":1,,"b":2}`, 7, form}, {`{"a":1,2`, 7, form}, {`{"a":1,]`, 7, form}, {`{"a":1,:`, 7, form}, {`{"a":1,[`, 7, form}, {`{"a":1,{`, 7, form}, {`{"a":1,null`, 7, form}, {`{"a":1,"b"}`, 10, form}, {`{"a":1,"b":}`, 11, form},
		{"[{]", 2, form}, {`{"a":[}`, 6, form}, {`{"a":[1}`, 7, form}, {`[{"a":1]`, 7, form}, {`[{"a":1},"b":2]`, 12, form}, {`{"a":[1],2`, 9, form}, {`{"a":{},[`, 8, form}, {`{"a":["b":`, 9, form}, {`[{"a":1,2`, 8, form},
		// what is no token
		{"tru", 0, form}, {"nul", 0, form}, {"falsy", 0, form}, {"Null", 0, form}, {"undefined", 0, form}, {"-", 0, form}, {"--1", 0, form}, {"+1", 0, form}, {".5", 0, form}, {"'a'", 0, form}, {"[nul]", 1, form}, {"[1,-]", 3, form}, {"[1,x", 3, form}, {"{a:1}", 1, form}, {`{"a":x`, 5, form}, {`{"a"x`, 4, form}, {"[1x", 2, form}, {"\v1", 0, form}, {"[\f]", 1, form}, {"\ufeff1", 0, form}, {"\xff", 0, form}, {"\x00", 0, form}, {"[1\x00", 2, form}, {"(", 0, form}, {"1.", 0, fraction}, {"1e5", 0, fraction}, {"-1.5", 0, fraction}, {"0E0", 0, fraction}, {"[1,2e]", 3, fraction}, {`{"a":0.0}`, 5, fraction},
		{"9223372036854775808", 0, tooGreat}, {"-9223372036854775809", 0, tooGreat}, {"[1,99999999999999999999]", 3, tooGreat}, {`{"a":18446744073709551616}`, 5, tooGreat}, {"9223372036854775808.5", 0, fraction},
		{`"\x"`, 1, form}, {"\"\n\"", 1, form}, {"\"a\x1f\"", 2, form}, {"\"\xff\"", 1, text}, {`"\ud800"`, 1, text}, {`["\udc00"]`, 2, text}, {`{"\u12`, 2, form}, {`{"a\q":1}`, 3, form}, {"{\"a\":\"\xc3\"}", 6, text}, {"[\"a\",\"b\xc0\x80\"]", 7, text},
		// behind a complete value
		{"1 2", 2, more}, {"01", 1, more}, {"-00", 2, more}, {"0 0", 2, more}, {"nulll", 4, form}, {"nullnull", 4, more}, {"null true", 5, more}, {"1,", 1, more}, {"1:", 1, more}, {"1}", 1, more}, {"1[", 1, more}, {"1{", 1, more}, {`1"a"`, 1, more}, {`"a":1`, 3, more}, {`"a""b"`, 3, more}, {"[]]", 2, more}, {"[] []", 3, more}, {"[],[]", 2, more}, {"{}}", 2, more}, {"{}{}", 2, more}, {"{} 1", 3, more}, {"[]\n\t]", 4, more}, {"[1]2]", 3, more}, {"true,x", 4, more},
		// behind a complete value it is the token's own fault that counts
		{"1 x", 2, form}, {"1 1.5", 2, fraction}, {"1 9223372036854775808", 2, tooGreat}, {`1 "a`, 4, short}, {`[]"\ud800"`, 3, text}, {"{}-", 2, form}, {"1 -", 2, form}, {"[]1e1", 2, fraction}, {"1a", 1, form}, {"1-2", 1, more}, {"1--", 1, form},
		// where a token isn't allowed, too
		{"[1 x", 3, form}, {"[1 1.5", 3, fraction}, {"[1 9223372036854775808", 3, tooGreat}, {`[1 "a`, 5, short}, {"[1 \"\xff\"", 4, text}, {"{1.5", 1, fraction}, {`{"a"1.5`, 4, fraction}, {`{"a" "b`, 7, short}, {`{"a":1 "b\ud800"`, 9, text}, {`{9223372036854775808`, 1, tooGreat},
		// the first one counts
		{"[1 2 1.5", 3, form}, {"[1.5 2", 1, fraction}, {"[,x", 1, form}, {`{"a":1,"a":x`, 7, twice}, {`{"a":1,"a" x`, 7, twice}, {`{"a":1,"a"x`, 7, twice}, {`{"a":1,"a"`, 7, twice}, {`{"a":1,"a`, 9, short}, {`{"a":1,"a"}`, 7, twice}, {`{"a":1,"a",`, 7, twice}, {`{"a":x,"a":1}`, 5, form}, {`{"a" 1,"a":1}`, 5, form}, {"1] x", 1, more}, {"] x", 0, form}, {`{"a":1,"a"1.5`, 7, twice}, {`{"a":1,"a\`, 9, form},
	}
	for _, c := range cases {
		checkFault(t, c.s, c.at, c.e)
		check(t, c.s)
	}
}

func TestTheChaptersErrors(t *testing.T) {
	for e, n := range map[api.Errno]api.Errno{
		api.ErrShort: short, api.ErrForm: form, api.ErrMore: more, api.ErrText: text, api.ErrDepth: deep, api.ErrTwice: twice, api.ErrOver: tooGreat, api.ErrReal: fraction, api.OK: 0,
	} {
		if e != n {
			t.Errorf("an error is %d, not %d", e, n)
		}
	}
}

func TestNamesThatTheSameObjectHas(t *testing.T) {
	for _, c := range []struct {
		s  string
		at int
		e  api.Errno
	}{
		{`{"a":1,"a":1}`, 7, twice}, {`{"a":1, "a":1}`, 8, twice}, {`{"a":1,"b":2,"a":3}`, 13, twice}, {`{"a":1,"b":2,"b":3}`, 13, twice}, {`{"":1,"":2}`, 6, twice}, {`{"a":1,"a":2,"a":3}`, 7, twice},
		{`{"a":1,"\u0061":2}`, 7, twice}, {`{"\u0061":1,"a":2}`, 12, twice}, {`{"\/":1,"/":2}`, 8, twice}, {`{"é":1,"\u00E9":2}`, 8, twice}, {`{"\ud83d\ude00":1,"😀":2}`, 18, twice}, {`{"\n":1,"\u000a":2}`, 8, twice},
		{`{"a":1,"A":2}`, 0, api.OK}, {`{"a":1,"a ":2}`, 0, api.OK}, {`{"a":1,"":2}`, 0, api.OK}, {`{"a":1,"aa":2}`, 0, api.OK}, {`{"a":1,"\u0000":2,"\u0000\u0000":2}`, 0, api.OK}, {"{\"\u00e9\":1,\"e\u0301\":2}", 0, api.OK}, {`{"a":1,"a\u0000":2}`, 0, api.OK}, {`{"\\u0061":1,"a":2}`, 0, api.OK},
		{`{"a":{"a":1}}`, 0, api.OK}, {`{"a":{"a":1},"b":{"a":1}}`, 0, api.OK}, {`[{"a":1},{"a":2}]`, 0, api.OK}, {`{"a":"a"}`, 0, api.OK}, {`{"a":"b","b":"a"}`, 0, api.OK}, {`{"a":["a","a"]}`, 0, api.OK}, {`["a","a"]`, 0, api.OK},
		{`{"a":{"b":1},"b":2}`, 0, api.OK}, {`{"a":[{"b":1}],"b":2}`, 0, api.OK}, {`{"a":{"b":1},"a":2}`, 13, twice}, {`{"a":{"b":1,"b":2}}`, 12, twice}, {`{"b":{"a":1},"c":{"a":1},"b":1}`, 25, twice}, {`{"a":[{"b":1,"b":2}]}`, 13, twice}, {`[{"a":1},{"b":1,"b":2}]`, 16, twice}, {`{"a":[{"a":{}}],"a":1}`, 16, twice}, {`{"a":{},"a":1}`, 8, twice}, {`{"a":[],"a":1}`, 8, twice},
		{`{"a":{"c":1,"b":2,"c":3},"a":1}`, 18, twice}, {`{"null":null,"null":0}`, 13, twice},
	} {
		checkFault(t, c.s, c.at, c.e)
		check(t, c.s)
	}
}

func TestEachNameOfManyOnceMore(t *testing.T) {
	for size := 1; size < 40; size++ {
		members := ""
		for i := range size {
			members += `"` + strings.Repeat("n", i) + `":` + strconv.Itoa(i) + ","
		}
		for i := range size {
			s := "[0,{" + members + ` "` + strings.Repeat("n", i) + `":0}]`
			checkFault(t, s, len("[0,{"+members+" "), twice)
		}
		checkFault(t, "[0,{"+members+` "n ":0}]`, 0, api.OK)
	}
}

func TestEveryNumberAboutTheLimits(t *testing.T) {
	one := big.NewInt(1)
	for bits := range 70 {
		for off := int64(-3); off <= 3; off++ {
			n := new(big.Int).Add(new(big.Int).Lsh(one, uint(bits)), big.NewInt(off))
			for _, m := range []*big.Int{n, new(big.Int).Neg(n)} {
				s := m.String()
				if m.IsInt64() {
					checkValue(t, s, numberOf(m.Int64()))
					checkValue(t, "["+s+"]", listOf(numberOf(m.Int64())))
					checkValue(t, `{"a":`+s+"}", objectOf("a", numberOf(m.Int64())))
				} else {
					checkFault(t, s, 0, tooGreat)
					checkFault(t, "["+s, 1, tooGreat)
					checkFault(t, `{"a": `+s+"}", 6, tooGreat)
					checkFault(t, "1 "+s, 2, tooGreat)
				}
			}
		}
	}
	for size := 1; size < 400; size++ {
		s := strings.Repeat("9", size)
		check(t, s)
		check(t, "[-"+s+"]")
		check(t, s+".0")
		check(t, "[0"+s+"]")
	}
}

func TestTheLimitOfTheDepth(t *testing.T) {
	for _, kinds := range []string{"[", "{", "[{", "{[", "[[{", "{{["} {
		for levels := range 140 {
			s := nested("1", levels, kinds)
			open := opened(levels, kinds)
			if levels <= 64 {
				want := numberOf(1)
				for i := levels - 1; i >= 0; i-- {
					if kinds[i%len(kinds)] == '{' {
						want = objectOf("a", want)
					} else {
						want = listOf(want)
					}
				}
				checkValue(t, s, want)
				checkConsequences(t, s)
				checkFault(t, open, len(open), short)
				continue
			}
			at := len(opened(64, kinds))
			checkFault(t, s, at, deep)
			checkFault(t, open, at, deep)
			checkFault(t, s[:at+1], at, deep)
			checkFault(t, s[:at+1]+"x", at, deep)
			checkFault(t, s[:at]+" \n"+s[at:], at+2, deep)
			checkConsequences(t, s)
		}
	}
	if api.MaxDepth != 64 {
		t.Errorf("the chapter's limit is 64, not %d", api.MaxDepth)
	}
}

func TestTheLimitHoldsForEachItem(t *testing.T) {
	most, over := nested("1", 63, "[{"), nested("1", 64, "[{")
	at := len(opened(63, "[{"))
	if value := valueOf(most); tree.Depth(value) != 63 {
		t.Fatal(tree.Depth(value))
	}
	for _, s := range []string{
		"[%]", "[1,%]", "[%,1]", "[[],%,[]]", `{"a":%}`, `{"a":%,"b":1}`, `{"a":{},"b":%}`, "[%,%]", `{"a":%,"b":%}`, "[ % , % , % ]",
	} {
		checkValue(t, strings.ReplaceAll(s, "%", most), valueOf(strings.ReplaceAll(s, "%", most)))
		checkConsequences(t, strings.ReplaceAll(s, "%", most))
		checkFault(t, strings.ReplaceAll(s, "%", over), strings.Index(s, "%")+at, deep)
		first := strings.Index(s, "%")
		if second := strings.Index(s[first+1:], "%"); second >= 0 {
			s = strings.Replace(s, "%", most, 1)
			checkFault(t, strings.ReplaceAll(s, "%", over), strings.Index(s, "%")+at, deep)
		}
	}
}

// A bracket that would open the 65th level, but isn't allowed where it stands, opens nothing.
func TestWhatElseIsWrongAtTheLimit(t *testing.T) {
	for _, c := range []struct {
		open, s string
		at      int
		e       api.Errno
	}{
		{"[", "[", 0, deep}, {"[", "{", 0, deep}, {"[", "1,[", 2, deep}, {"[", "1,{", 2, deep}, {"[", "1[", 1, form}, {"[", "1{", 1, form}, {"[", ",[", 0, form}, {"[", "1 [", 2, form}, {"[", "[x", 0, deep}, {"[", "x[", 0, form}, {"[", "1.5[", 0, fraction},
		{"{", "{", 0, form}, {"{", "[", 0, form}, {"{", `"a"[`, 3, form}, {"{", `"a"{`, 3, form}, {"{", `"a":[`, 4, deep}, {"{", `"a":{`, 4, deep}, {"{", `"a":1[`, 5, form}, {"{", `"a":1{`, 5, form}, {"{", `"a":1,[`, 6, form}, {"{", `"a":1,{`, 6, form}, {"{", `"a":1,"b":[`, 10, deep}, {"{", `"a":1,"a":[`, 6, twice}, {"{", `"a":{"a":1},"a":1`, 4, deep},
	} {
		for _, kinds := range []string{"[", "{", "{["} {
			open := opened(63, kinds) + c.open
			checkFault(t, open+c.s, len(open)+c.at, c.e)
			check(t, open+c.s)
		}
	}
	for _, kinds := range []string{"[", "{", "{["} {
		s := nested("0", 64, kinds)
		checkFault(t, s+"[", len(s), more)
		checkFault(t, s+"{", len(s), more)
		checkFault(t, s+" ]", len(s)+1, more)
		checkFault(t, s+nested("0", 65, kinds), len(s), more)
	}
}

func TestVeryDeep(t *testing.T) {
	for _, levels := range []int{255, 256, 257, 1000, 9999, 10001, 32768, 65535, 65536, 1 << 20} {
		for _, kinds := range []string{"[", "{", "[{", "{["} {
			checkFault(t, nested("1", levels, kinds), len(opened(64, kinds)), deep)
			checkFault(t, opened(levels, kinds), len(opened(64, kinds)), deep)
		}
		checkFault(t, strings.Repeat("{", levels), 1, form)
		checkFault(t, strings.Repeat("]", levels), 0, form)
		checkFault(t, strings.Repeat("[]", levels), 2, more)
		checkFault(t, strings.Repeat("[{", levels), 2, form)
	}
	many := "[" + strings.Repeat("[],{},", 100) + "[]]"
	checkValue(t, many, valueOf(many)) // brackets that are closed again are not about any more
}

func TestEveryPairOfBytes(t *testing.T) {
	for i := range 256 {
		for k := range 256 {
			check(t, string([]byte{byte(i), byte(k)}))
		}
		for _, s := range []string{"%", "[%", "[1%", "[1,%", "{%", `{"a"%`, `{"a":%`, `{"a":1%`, `{"a":1,%`, "1%", "[]%", "1 %", `"%"`, `{"%":1}`} {
			check(t, strings.ReplaceAll(s, "%", string([]byte{byte(i)})))
		}
	}
}

func TestEveryByteAtEachPlace(t *testing.T) {
	for _, s := range samples {
		for place := range len(s) + 1 {
			check(t, s[:place])
			check(t, s[place:])
			if place < len(s) {
				check(t, s[:place]+s[place+1:])
			}
			for i := range 256 {
				b := string([]byte{byte(i)})
				check(t, s[:place]+b+s[place:])
				if place < len(s) {
					check(t, s[:place]+b+s[place+1:])
				}
			}
		}
	}
}

func TestEveryPairOfSamples(t *testing.T) {
	for _, a := range samples {
		for _, b := range samples {
			for _, form := range []string{"a b", "ab", "a,b", "a:b", "[a,b]", "[a b]", "[ab]", "[a:b]", "{a:b}", "{a,b}", "{ab}", "{a b}", "[a,]", "[a,b", "{a:b,}", "{a:b,b:a}", "{a:b b:a}", "{a:b,b}", "{a:b,a:b}"} {
				check(t, strings.NewReplacer("a", a, "b", b).Replace(form))
			}
		}
	}
}

func TestBlanksAtEachPlace(t *testing.T) {
	for _, s := range samples {
		for place := range len(s) + 1 {
			eachString([]string{" ", "\t", "\n", "\r", "\v"}, 2, func(blanks string) {
				check(t, blanks+s[:place]+blanks+s[place:]+blanks)
			})
		}
	}
}

func TestEveryShortString(t *testing.T) {
	visit := func(s string) { check(t, s) }
	eachString([]string{"[", "]", ",", "1", " "}, 5, visit)
	eachString([]string{"{", "}", `"a"`, ":", ",", "1"}, 5, visit)
	eachString([]string{"{", "}", `"a":`, `"b":1`, "[", "]", ","}, 5, visit)
	eachString([]string{"-", "0", "1", ".", "e", "+", " "}, 4, visit)
	eachString([]string{`"`, `\`, "u", "t", "\n", "\xc3", "\xa9"}, 4, visit)
	eachString([]string{"null", "true", "false", "n", "[", "]", ","}, 4, visit)
	for _, around := range []string{"[%]", "{%}", `{"a":%}`, "[1,%", `{"a":1,%}`, `[{"a":%},2]`} {
		eachString([]string{"1", ",", ":", `"a"`, "[", "]", "{", "}", "x"}, 3, func(s string) {
			check(t, strings.ReplaceAll(around, "%", s))
		})
	}
}

func TestRandomPieces(t *testing.T) {
	random := rand.New(rand.NewSource(131))
	pieces := []string{"{", "}", "[", "]", ":", ",", `"a":`, `"b":`, `"a"`, `"b"`, "1", "-0", "null", "true", "false", " ", "\n", "[]", "{}", ",", `"c":1,`, `"\u0061":`, "1.5", "99999999999999999999", "x", `"\x"`, "\xff"}
	for range 20000 {
		s := ""
		for range random.Intn(12) {
			s += pieces[random.Intn(random.Intn(len(pieces))+1)]
		}
		check(t, s)
		check(t, "["+s+"]")
		check(t, `{"a":`+s+"}")
	}
}

// someText is the text of a value that is at most so deep, and the value.
func someText(random *rand.Rand, depth int) (string, api.Value) {
	kind := random.Intn(6)
	if depth == 0 {
		kind = random.Intn(4)
	}
	switch kind {
	case 0:
		return "null", null
	case 1:
		n := random.Intn(2)
		return [...]string{"false", "true"}[n], boolOf(int64(n))
	case 2:
		n := int64(random.Uint64()) >> random.Intn(64)
		return strconv.FormatInt(n, 10), numberOf(n)
	case 3:
		s := someString(random)
		return quotedOf(random, s), textOf(s)
	}
	v := api.Value{Kind: kind}
	var parts []string
	for range random.Intn(5) {
		part, item := someText(random, depth-1)
		if kind == 5 {
			name := someString(random)
			if slices.Contains(v.Names, name) {
				continue
			}
			v.Names = append(v.Names, name)
			part = quotedOf(random, name) + someBlanks(random) + ":" + someBlanks(random) + part
		}
		v.Items = append(v.Items, item)
		parts = append(parts, someBlanks(random)+part+someBlanks(random))
	}
	whole := strings.Join(parts, ",")
	if parts == nil {
		whole = someBlanks(random)
	}
	if kind == 5 {
		return "{" + whole + "}", v
	}
	return "[" + whole + "]", v
}

func someString(random *rand.Rand) string {
	s := ""
	for range random.Intn(4) {
		s += [...]string{"a", "b", "é", "😀", "\n", "\x00", `"`, `\`, "/", " ", "[", "}", ":", ",", "1"}[random.Intn(15)]
	}
	return s
}

// quotedOf is s in quotes, with more escapes than there need be.
func quotedOf(random *rand.Rand, s string) string {
	whole := ""
	for _, r := range s {
		plain, _ := quote.Put(string(r))
		if escaped := random.Intn(4) == 0; escaped && r < 0x10000 {
			plain = fmt.Sprintf(`"\u%04X"`, r)
		} else if escaped {
			plain = fmt.Sprintf(`"\u%04x\u%04x"`, 0xd800+(r-0x10000)>>10, 0xdc00+(r-0x10000)&0x3ff)
		}
		whole += plain[1 : len(plain)-1]
	}
	return `"` + whole + `"`
}

func someBlanks(random *rand.Rand) string {
	s := ""
	for range random.Intn(6) - 3 {
		s += string(" \t\n\r"[random.Intn(4)])
	}
	return s
}

func TestRandomTexts(t *testing.T) {
	random := rand.New(rand.NewSource(132))
	for range 10000 {
		s, v := someText(random, random.Intn(6))
		s = someBlanks(random) + s + someBlanks(random)
		checkValue(t, s, v)
		checkConsequences(t, s)
		if len(s) < 60 {
			checkChanged(t, random, s)
		}
	}
}

// checkChanged changes a byte of s, or takes it away, or puts one in, or ends s there.
func checkChanged(t *testing.T, random *rand.Rand, s string) {
	t.Helper()
	bytes := "{}[]:,\"\\ 01-na\n\xff"
	for range 5 {
		place := random.Intn(len(s))
		i := random.Intn(len(bytes))
		b := bytes[i : i+1]
		check(t, s[:place]+s[place+1:])
		check(t, s[:place]+b+s[place+1:])
		check(t, s[:place]+b+s[place:])
		check(t, s[:place])
	}
}

// P13.1: every string that ends too early, or goes on behind its end

func TestEveryPartOfAText(t *testing.T) {
	random := rand.New(rand.NewSource(133))
	texts := []string{`{"a":[1,{"b":null,"c":[]},"d"],"e":{"f":{"g":-10}},"h":true}`}
	for range 200 {
		s, v := someText(random, 5)
		if len(v.Items) > 0 && len(s) < 200 {
			texts = append(texts, s)
		}
	}
	for _, s := range texts {
		tokens, _, _ := lex.Tokens(s)
		for i, token := range tokens {
			if token.Kind == api.TEnd {
				break
			}
			checkFault(t, s[:token.At], token.At, short)
			checkFault(t, s[:token.At]+" \n", token.At+2, short)
			checkFault(t, s[:token.At]+" .", token.At+1, form)
			checkFault(t, s[:token.At]+" -1e", token.At+1, fraction)
			checkFault(t, s+" "+s[token.At:], len(s)+1, more)
			if i > 0 {
				check(t, s[token.At:])
			}
		}
		checkFault(t, s+s, len(s), more)
		checkFault(t, s+" .", len(s)+1, form)
		checkFault(t, s+" 2.", len(s)+1, fraction)
	}
}

// A string twice as long may take twice as long: a way that takes four times as long would be at it for minutes.
func TestLongStringsEnd(t *testing.T) {
	begun := time.Now()
	size := 1 << 18
	repeat := func(s string) string { return strings.Repeat(s, size) }
	var members strings.Builder
	for i := range size {
		members.WriteString(`"` + strconv.Itoa(i) + `":` + strconv.Itoa(size-i) + ",")
	}
	for _, c := range []struct {
		s  string
		at int
		e  api.Errno
	}{
		{"[" + repeat("1,") + "]", 1 + 2*size, form},
		{"[" + repeat("[],") + "{}", 3 + 3*size, short},
		{"[" + repeat("{},") + "{}]]", 4 + 3*size, more},
		{"[" + repeat(`{"a":[]},`) + "1 1]", 3 + 9*size, form},
		{"{" + members.String() + "}", 1 + members.Len(), form},
		{"{" + members.String() + `"0":1}`, 1 + members.Len(), twice},
		{"{" + members.String() + `"` + strconv.Itoa(size-1) + `":1}`, 1 + members.Len(), twice},
		{`"` + repeat("a"), 1 + size, short},
		{`"` + repeat("a") + `"1`, 2 + size, more},
		{repeat(" "), size, short},
		{repeat("1"), 0, tooGreat},
		{repeat("0"), 1, more},
		{"[" + repeat("0"), 2, form},
		{repeat("null"), 4, more},
	} {
		checkFault(t, c.s, c.at, c.e)
	}
	v, at, e := Parse("{" + members.String() + `"":[]}`)
	if at != 0 || e != api.OK || len(v.Names) != size+1 || len(v.Items) != size+1 {
		t.Fatalf("%d names, %d items, %d, %d", len(v.Names), len(v.Items), at, e)
	}
	for i := range size {
		if v.Names[i] != strconv.Itoa(i) || !same(v.Items[i], numberOf(int64(size-i))) {
			t.Fatalf("the member %d: %q, %+v", i, v.Names[i], v.Items[i])
		}
	}
	checkValue(t, repeat("\n")+`"`+repeat("é")+`"`+repeat("\t"), textOf(repeat("é")))
	if took := time.Since(begun); took > time.Minute {
		t.Errorf("it took %v", took)
	}
}

// P13.2

func TestTheDepthAndTheLevelAreOne(t *testing.T) {
	random := rand.New(rand.NewSource(134))
	for range 3000 {
		s, want := someText(random, 4)
		levels := random.Intn(61)
		s = nested(s, levels, [...]string{"[", "{", "[{"}[random.Intn(3)])
		v, at, e := Parse(s)
		if e != api.OK || at != 0 || !tree.Right(v) {
			t.Fatalf("Parse(%s) = %+v, %d, %d", brief(s), v, at, e)
		}
		if deep := tree.Depth(want) + levels; tree.Depth(v) != deep || grammar.Level(s) != deep {
			t.Fatalf("Parse(%s): depth %d, level %d, want %d", brief(s), tree.Depth(v), grammar.Level(s), deep)
		}
	}
}

// What JSON asks for beyond the grammar: numbers with room, and names that differ.
func TestJsonWithoutAValue(t *testing.T) {
	for _, s := range []string{
		"9223372036854775808", "[-9223372036854775809]", `{"a":[1,18446744073709551616]}`, `{"a":1,"a":1}`, `[{"b":{"a":[],"a":[]}}]`,
	} {
		if _, _, e := Parse(s); !grammar.Is(s) || e == api.OK {
			t.Errorf("Parse(%q) = .., %d", s, e)
		}
		checkConsequences(t, s)
	}
	for _, s := range []string{`"99999999999999999999"`, `{"a":"9223372036854775808","b":"a"}`, `["{\"a\":1,\"a\":2}"]`} {
		checkValue(t, s, valueOf(s))
		checkConsequences(t, s)
	}
}

// R3

func TestAnAnswerIsNewMemory(t *testing.T) {
	random := rand.New(rand.NewSource(135))
	for range 2000 {
		s, want := someText(random, 5)
		v, _, _ := Parse(s)
		eachValue(v, func(v api.Value) {
			for _, name := range append([]string{v.S}, v.Names...) {
				if shares(name, s) {
					t.Fatalf("Parse(%q): %q is a piece of it", s, name)
				}
			}
		})
		eachValue(v, func(v api.Value) { // what stands behind the end of one list is no part of another one
			_ = append(v.Items, numberOf(99))
			_ = append(v.Names, "other")
		})
		if !same(v, want) {
			t.Fatalf("Parse(%q) has lists that share memory", s)
		}
		eachValue(v, func(v api.Value) {
			clear(v.Items[len(v.Items):cap(v.Items)])
			clear(v.Names)
			clear(v.Items)
		})
		checkValue(t, s, want)
	}
}

func eachValue(v api.Value, visit func(api.Value)) {
	for _, item := range v.Items {
		eachValue(item, visit)
	}
	visit(v)
}

// shares tells whether a, if it is not empty, lies within the memory of s.
func shares(a, s string) bool {
	if a == "" || s == "" {
		return false
	}
	first, at := uintptr(unsafe.Pointer(unsafe.StringData(s))), uintptr(unsafe.Pointer(unsafe.StringData(a)))
	return at >= first && at < first+uintptr(len(s))
}

// R4

func TestTheSameAnswerAgain(t *testing.T) {
	random := rand.New(rand.NewSource(136))
	var texts []string
	for range 500 {
		s, _ := someText(random, 5)
		texts = append(texts, s, s+"]", "["+s, s[1:], `{"a":`+s+`,"a":1}`)
	}
	type answer struct {
		v  api.Value
		at int
		e  api.Errno
	}
	var answers []answer
	for _, s := range texts {
		v, at, e := Parse(s)
		answers = append(answers, answer{v, at, e})
	}
	for i := range texts {
		i = len(texts) - 1 - i
		v, at, e := Parse(texts[i])
		if first := answers[i]; !same(v, first.v) || at != first.at || e != first.e {
			t.Fatalf("Parse(%q) = %+v, %d, %d, ahead of that %+v", texts[i], v, at, e, first)
		}
	}
}
