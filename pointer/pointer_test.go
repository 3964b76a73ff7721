package pointer

import (
	"fmt"
	"math"
	"math/rand"
	"regexp"
	"slices"
	"strconv"
	"strings"
	"syscall"
	"testing"
	"time"
	"unsafe"

	"stoplog/api"
	"stoplog/tree"
)

// Values, written shortly.

func null() api.Value                     { return api.Value{} }
func numberOf(n int64) api.Value          { return api.Value{Kind: 2, N: n} }
func textOf(s string) api.Value           { return api.Value{Kind: 3, S: s} }
func listOf(items ...api.Value) api.Value { return api.Value{Kind: 4, Items: items} }

// objectOf takes its names in one string, with commas between them.
func objectOf(names string, items ...api.Value) api.Value {
	return api.Value{Kind: 5, Names: strings.Split(names, ","), Items: items}
}

// numbers is a list of that many numbers, from 0 on.
func numbers(count int) api.Value {
	v := api.Value{Kind: 4}
	for i := range count {
		v.Items = append(v.Items, numberOf(int64(i)))
	}
	return v
}

// nested is v within that many lists or objects, in turn as the kinds say, and the path to it.
func nested(v api.Value, levels int, kinds string) (api.Value, []string) {
	var path []string
	for i := range levels {
		if kinds[i%len(kinds)] == '{' {
			v, path = objectOf("b,a", null(), v), append(path, "a")
		} else {
			v, path = listOf(null(), v), append(path, "1")
		}
	}
	slices.Reverse(path)
	return v, path
}

// What the functions must answer, by the chapter's own words.

// putOf goes byte by byte.
func putOf(l []string) string {
	var whole []byte
	for _, part := range l {
		whole = append(whole, '/')
		for _, b := range []byte(part) {
			switch b {
			case '~':
				whole = append(whole, '~', '0')
			case '/':
				whole = append(whole, '~', '1')
			default:
				whole = append(whole, b)
			}
		}
	}
	return string(whole)
}

// paths are texts without parts, or of parts that begin with a / and have no ~ but ahead of a 0 or a 1.
var paths = regexp.MustCompile(`^(/([^/~]|~0|~1)*)*$`)

func takeOf(s string) ([]string, bool) {
	if !paths.MatchString(s) {
		return nil, false
	}
	var l []string
	for _, part := range strings.SplitAfter(s, "/")[1:] {
		l = append(l, strings.NewReplacer("/", "", "~0", "~", "~1", "/").Replace(part))
	}
	return l, true
}

func findOf(v api.Value, l []string) (api.Value, bool) {
	ok := true
	for _, part := range l {
		if v.Kind == 4 {
			v, ok = itemOf(v.Items, part)
		} else {
			v, ok = tree.Find(v, part)
		}
		if !ok {
			return api.Value{}, false
		}
	}
	return v, true
}

// itemOf holds the part against the digits of each index.
func itemOf(items []api.Value, part string) (api.Value, bool) {
	for i, item := range items {
		if fmt.Sprint(i) == part {
			return item, true
		}
	}
	return api.Value{}, false
}

// Checks of one call each.

func checkPut(t *testing.T, l []string, want string) {
	t.Helper()
	if got := Put(l); got != want {
		t.Fatalf("Put(%q) = %q, want %q", l, got, want)
	}
}

func checkJoin(t *testing.T, path, name, want string) {
	t.Helper()
	if got := Join(path, name); got != want {
		t.Fatalf("Join(%q, %q) = %q, want %q", path, name, got, want)
	}
}

func checkTake(t *testing.T, s string, want []string, is bool) {
	t.Helper()
	got, ok := Take(s)
	if !slices.Equal(got, want) || ok != is {
		t.Fatalf("Take(%q) = %q, %t, want %q, %t", s, got, ok, want, is)
	}
}

func checkNoPath(t *testing.T, s string) {
	t.Helper()
	checkTake(t, s, nil, false)
}

func checkFind(t *testing.T, v api.Value, l []string, want api.Value, is bool) {
	t.Helper()
	got, ok := Find(v, l)
	if !tree.Same(got, want) || ok != is {
		t.Fatalf("Find(%+v, %q) = %+v, %t, want %+v, %t", v, l, got, ok, want, is)
	}
}

func checkNothing(t *testing.T, v api.Value, l ...string) {
	t.Helper()
	checkFind(t, v, l, null(), false)
}

// checkText holds Take against what the chapter says of s, whatever s is.
func checkText(t *testing.T, s string) {
	t.Helper()
	l, ok := takeOf(s)
	checkTake(t, s, l, ok)
}

// checkPath holds all that is asked of one path and its text.
func checkPath(t *testing.T, l []string) {
	t.Helper()
	text := putOf(l)
	checkPut(t, l, text)
	checkTake(t, text, l, true)
	for i, part := range l {
		checkJoin(t, putOf(l[:i]), part, putOf(l[:i+1]))
	}
}

// checkPlace holds Find against what the chapter says of v and l, whatever they are.
func checkPlace(t *testing.T, v api.Value, l []string) {
	t.Helper()
	want, is := findOf(v, l)
	checkFind(t, v, l, want, is)
}

// Paths to be tried.

// strungOf are all strings of up to that many of the bytes.
func strungOf(bytes string, most int) []string {
	all := []string{""}
	for from := 0; most > 0; most-- {
		to := len(all)
		for _, s := range all[from:to] {
			for _, b := range []byte(bytes) {
				all = append(all, s+string([]byte{b}))
			}
		}
		from = to
	}
	return all
}

// pathsOf are all paths with parts of these bytes whose texts have exactly that many bytes.
func pathsOf(bytes string, size int) [][]string {
	if size == 0 {
		return [][]string{nil}
	}
	var all [][]string
	for own := 1; own <= size; own++ {
		for _, part := range partsOf(bytes, own-1) {
			for _, rest := range pathsOf(bytes, size-own) {
				all = append(all, append([]string{part}, rest...))
			}
		}
	}
	return all
}

// partsOf are all parts of these bytes that have exactly that many bytes in a text.
func partsOf(bytes string, size int) []string {
	if size == 0 {
		return []string{""}
	}
	var all []string
	for _, b := range []byte(bytes) {
		own := 1
		if b == '/' || b == '~' {
			own = 2
		}
		if own <= size {
			for _, rest := range partsOf(bytes, size-own) {
				all = append(all, string([]byte{b})+rest)
			}
		}
	}
	return all
}

// pieceAtRandom is a string of bytes that matter, or of any bytes.
func pieceAtRandom(r *rand.Rand, most int) string {
	var s []byte
	for range r.Intn(most + 1) {
		if r.Intn(3) == 0 {
			s = append(s, byte(r.Intn(256)))
		} else {
			s = append(s, "/~~01/a9-"[r.Intn(9)])
		}
	}
	return string(s)
}

func pathAtRandom(r *rand.Rand, most int) []string {
	var l []string
	for range r.Intn(most + 1) {
		l = append(l, pieceAtRandom(r, 6))
	}
	return l
}

// P15.1

func TestPutExamples(t *testing.T) {
	checkPut(t, []string{"a/b", "0"}, "/a~1b/0")
	checkPut(t, nil, "")
	checkPut(t, []string{}, "")
	checkPut(t, []string{""}, "/")
	checkPut(t, []string{"", ""}, "//")
	checkPut(t, []string{"a"}, "/a")
	checkPut(t, []string{"a", "", "b"}, "/a//b")
	checkPut(t, []string{"~"}, "/~0")
	checkPut(t, []string{"/"}, "/~1")
	checkPut(t, []string{"~0"}, "/~00")
	checkPut(t, []string{"~1"}, "/~01")
	checkPut(t, []string{"~~//~/"}, "/~0~0~1~1~0~1")
	checkPut(t, []string{"/~", "~/"}, "/~1~0/~0~1")
	checkPut(t, []string{"\x00\xff\"\\%25 \u00e9"}, "/\x00\xff\"\\%25 \u00e9")
}

// P15.2

func TestJoinExamples(t *testing.T) {
	checkJoin(t, "", "a", "/a")
	checkJoin(t, "", "", "/")
	checkJoin(t, "/", "", "//")
	checkJoin(t, "/a", "b", "/a/b")
	checkJoin(t, "/a", "~/", "/a/~0~1")
	checkJoin(t, "/0", "~1", "/0/~01")
	checkJoin(t, "/a/", "b", "/a//b")
	checkJoin(t, "/a~1b", "\xff", "/a~1b/\xff")
}

// TestJoinLeavesThePath: what comes first is taken as it is, even if it is the text of no path.
func TestJoinLeavesThePath(t *testing.T) {
	for _, path := range []string{"a", "~", "/~", "/~2", "~0~1", " ", "\xff", "a/b~"} {
		checkJoin(t, path, "", path+"/")
		checkJoin(t, path, "b", path+"/b")
		checkJoin(t, path, "/~", path+"/~1~0")
	}
}

func TestJoinAtRandom(t *testing.T) {
	r := rand.New(rand.NewSource(1))
	for range 20000 {
		path, name := pieceAtRandom(r, 8), pieceAtRandom(r, 8)
		checkJoin(t, path, name, path+putOf([]string{name}))
	}
}

// P15.3

func TestTakeExamples(t *testing.T) {
	checkTake(t, "", nil, true)
	checkTake(t, "/", []string{""}, true)
	checkTake(t, "//", []string{"", ""}, true)
	checkTake(t, "/a~1b/0", []string{"a/b", "0"}, true)
	checkTake(t, "/a//b/", []string{"a", "", "b", ""}, true)
	checkTake(t, "/~0", []string{"~"}, true)
	checkTake(t, "/~1", []string{"/"}, true)
	checkTake(t, "/~01", []string{"~1"}, true)
	checkTake(t, "/~00", []string{"~0"}, true)
	checkTake(t, "/~10", []string{"/0"}, true)
	checkTake(t, "/~11", []string{"/1"}, true)
	checkTake(t, "/~0~1~1~0", []string{"~//~"}, true)
	checkTake(t, "/~001~010", []string{"~01~10"}, true)
	checkTake(t, "/0/1/~0", []string{"0", "1", "~"}, true)
	checkTake(t, "/%2F\\u002f\x00\xff", []string{"%2F\\u002f\x00\xff"}, true)
}

func TestTakeOfWhatIsNoPath(t *testing.T) {
	for _, s := range []string{
		"a", "a/b", "~", "~0", "~1", " ", " /a", "\\a", "\x00/a", "\xff", "0", "#/a",
		"/~", "/~2", "/~~", "/~/", "/~/0", "/~a", "/~-", "/~ 0", "/~\x00", "/~\x01", "/~\xff",
		"/a~", "/a/~", "/a~/b", "/~0~", "/~1~", "/~0~2", "/~~0", "/~~1", "/~2/a", "/a/b/~9c", "/~0/~1/~", "/~0~1~3~0",
	} {
		checkNoPath(t, s)
	}
}

func TestTakeOfEachByte(t *testing.T) {
	for n := range 256 {
		b := string([]byte{byte(n)})
		checkText(t, b)
		checkText(t, b+"/a")
		checkText(t, "/"+b)
		checkText(t, "/a"+b+"c")
		checkText(t, "/~"+b)
		checkText(t, "/~"+b+"0")
		checkText(t, "/~0"+b)
		checkText(t, "/~1"+b+"1/")
		checkPath(t, []string{b})
		checkPath(t, []string{"x" + b + "y", b + b, "~" + b, "/" + b, b + "~", b + "/"})
	}
}

// TestTakeOfAllShortStrings: a string has parts if some path has it as its text, and then those.
func TestTakeOfAllShortStrings(t *testing.T) {
	for bytes, most := range map[string]int{"/~01a": 7, "/~0": 10, "/~012\xff": 6} {
		known := map[string][]string{}
		for size := range most + 1 {
			for _, l := range pathsOf(bytes, size) {
				checkPut(t, l, putOf(l))
				if other, is := known[putOf(l)]; is {
					t.Fatalf("%q and %q have one text", l, other)
				}
				known[putOf(l)] = l
			}
		}
		for _, s := range strungOf(bytes, most) {
			l, is := known[s]
			checkTake(t, s, l, is)
		}
	}
}

func TestTakeAtRandom(t *testing.T) {
	r := rand.New(rand.NewSource(2))
	for range 100000 {
		s := "/" + pieceAtRandom(r, 12)
		checkText(t, s)
		checkText(t, s[1:])
		s = putOf(pathAtRandom(r, 6))
		checkText(t, s)
		if s != "" {
			at := r.Intn(len(s))
			checkText(t, s[:at]+s[at+1:])
			checkText(t, s[:at]+"~"+s[at:])
			checkText(t, s[:at]+"/"+s[at+1:])
			checkText(t, s[:at])
		}
	}
}

// P15.4

func TestFindExamples(t *testing.T) {
	v := objectOf("a", listOf(null(), numberOf(7)))
	checkFind(t, v, []string{"a", "1"}, numberOf(7), true)
	checkFind(t, v, []string{"a", "0"}, null(), true)
	checkFind(t, v, []string{"a"}, listOf(null(), numberOf(7)), true)
	checkFind(t, v, nil, v, true)
	checkFind(t, v, []string{}, v, true)
	checkNothing(t, v, "a", "01")
	checkNothing(t, v, "a", "2")
	checkNothing(t, v, "a", "")
	checkNothing(t, v, "a", "a")
	checkNothing(t, v, "a", "-")
	checkNothing(t, v, "a", "1", "0")
	checkNothing(t, v, "a", "1", "")
	checkNothing(t, v, "a", "2", "0")
	checkNothing(t, v, "")
	checkNothing(t, v, "b")
	checkNothing(t, v, "A")
	checkNothing(t, v, "0")
	checkNothing(t, v, "1", "a")
	checkNothing(t, v, "a/1")
	checkNothing(t, v, "/a/1")
	checkNothing(t, v, "b", "1")
}

func TestFindInNestedValues(t *testing.T) {
	v := listOf(listOf(), objectOf("x,0,", objectOf("x", textOf("deep")), listOf(numberOf(1), listOf(numberOf(2), numberOf(3))), textOf("none")), listOf(numberOf(4)))
	checkFind(t, v, []string{"1", "x", "x"}, textOf("deep"), true)
	checkFind(t, v, []string{"1", "0", "0"}, numberOf(1), true)
	checkFind(t, v, []string{"1", "0", "1", "1"}, numberOf(3), true)
	checkFind(t, v, []string{"1", "0", "1"}, listOf(numberOf(2), numberOf(3)), true)
	checkFind(t, v, []string{"1", ""}, textOf("none"), true)
	checkFind(t, v, []string{"2", "0"}, numberOf(4), true)
	checkFind(t, v, []string{"0"}, listOf(), true)
	checkNothing(t, v, "0", "0")
	checkNothing(t, v, "1", "1")
	checkNothing(t, v, "1", "00")
	checkNothing(t, v, "1", "x", "0")
	checkNothing(t, v, "1", "x", "x", "x")
	checkNothing(t, v, "1", "0", "x")
	checkNothing(t, v, "3")
	checkNothing(t, v, "x")
}

// TestFindTakesPartsAsTheyAre: what stands for a byte in a text is no such byte in a part.
func TestFindTakesPartsAsTheyAre(t *testing.T) {
	v := objectOf("a/b,~,~1,\xff", numberOf(1), numberOf(2), numberOf(3), numberOf(4))
	checkFind(t, v, []string{"a/b"}, numberOf(1), true)
	checkFind(t, v, []string{"~"}, numberOf(2), true)
	checkFind(t, v, []string{"~1"}, numberOf(3), true)
	checkFind(t, v, []string{"\xff"}, numberOf(4), true)
	checkNothing(t, v, "a~1b")
	checkNothing(t, v, "~0")
	checkNothing(t, v, "/")
	checkNothing(t, v, "~01")
	checkNothing(t, v, "\ufffd")
	checkNothing(t, v, "a", "b")
}

// TestFindOfEachIndex in lists about the sizes where the digits become more.
func TestFindOfEachIndex(t *testing.T) {
	for _, count := range []int{0, 1, 2, 9, 10, 11, 99, 100, 101, 999, 1000, 1001} {
		v := numbers(count)
		for i := range count {
			checkFind(t, v, []string{strconv.Itoa(i)}, numberOf(int64(i)), true)
		}
		for _, part := range []string{strconv.Itoa(count), strconv.Itoa(count + 1), strconv.Itoa(10 * (count + 1)), "-1", strconv.Itoa(-count), "0" + strconv.Itoa(count), "999999999"} {
			checkNothing(t, v, part)
		}
	}
}

func TestFindOfPartsThatAreNoIndex(t *testing.T) {
	v := numbers(300)
	for _, part := range []string{
		"", "00", "01", "001", "010", "000000000", "000000001", "0000000000", "0000000001", "00000000000000000000001",
		"-0", "-1", "-01", "+0", "+1", "--1", "- 1", " 1", "1 ", " ", "1\n", "\t1", "1.", "1.0", ".1", "1e0", "1e1", "0x1", "0b1", "0o1", "1_0", "1,0", "1'", "1a", "a1", "a",
		"\x001", "1\x00", "\x00", "\x01", "/", ":", "1/", "1:", "/1", ":1", "\u0661", "\uff11", "\u00b2", "\xb1", "1\xff", "-", "~0", "~1",
		"4294967296", "4294967297", "1000000000", "1000000001", "2147483648", "18446744073709551616", "18446744073709551617", "340282366920938463463374607431768211457",
		"999999999", "300", "301", "-9223372036854775808", "9223372036854775807", "9223372036854775808", "18446744073709551615", "-18446744073709551615",
		strings.Repeat("0", 1000), strings.Repeat("1", 1000), strings.Repeat("9", 100000),
	} {
		checkNothing(t, v, part)
		checkNothing(t, v, part, part)
		checkNothing(t, listOf(v), "0", part)
	}
}

func TestFindOfAllShortParts(t *testing.T) {
	v := numbers(1200)
	for _, part := range append(strungOf("0129-+ a", 4), strungOf("0123456789", 4)...) {
		checkPlace(t, v, []string{part})
	}
	for n := range 256 {
		b := string([]byte{byte(n)})
		checkPlace(t, v, []string{b})
		checkPlace(t, v, []string{b + "1"})
		checkPlace(t, v, []string{"1" + b})
		checkPlace(t, v, []string{"1" + b + "1"})
	}
}

func TestFindInValuesOfOtherKinds(t *testing.T) {
	inner := listOf(numberOf(5))
	for _, kind := range []int{math.MinInt, -1, 0, 1, 2, 3, 6, 7, 256 + 4, 1<<32 + 4, 1<<32 + 5, math.MaxInt} {
		v := api.Value{Kind: kind, N: 9, S: "\xff", Items: []api.Value{inner, inner}, Names: []string{"0", "a"}}
		checkFind(t, v, nil, v, true)
		checkFind(t, listOf(v), []string{"0"}, v, true)
		for _, part := range []string{"0", "1", "a", ""} {
			checkNothing(t, v, part)
			checkNothing(t, v, part, "0")
			checkNothing(t, listOf(v), "0", part)
			checkNothing(t, objectOf("a", v), "a", part)
		}
	}
}

func TestFindInValuesThatAreNotValid(t *testing.T) {
	twice := objectOf("a,b,a", numberOf(1), numberOf(2), numberOf(3))
	checkFind(t, twice, []string{"a"}, numberOf(1), true)
	checkFind(t, twice, []string{"b"}, numberOf(2), true)
	named := api.Value{Kind: 4, N: 3, S: "x", Names: []string{"1", "a"}, Items: []api.Value{numberOf(1), numberOf(2)}}
	checkFind(t, named, []string{"1"}, numberOf(2), true)
	checkFind(t, named, nil, named, true)
	checkNothing(t, named, "a")
	few := objectOf("a,b,c", listOf(numberOf(1)))
	checkFind(t, few, []string{"a", "0"}, numberOf(1), true)
	checkNothing(t, few, "b")
	checkNothing(t, few, "c")
	checkNothing(t, few, "b", "0")
	checkNothing(t, objectOf("a"), "a")
	checkNothing(t, api.Value{Kind: 5, Items: []api.Value{numberOf(1)}}, "0")
	checkNothing(t, api.Value{Kind: 5, Items: []api.Value{numberOf(1)}}, "")
	checkNothing(t, api.Value{Kind: 4, Names: []string{"0"}}, "0")
	late := objectOf("x,a,y,a", numberOf(0))
	checkNothing(t, late, "a")
	digits := objectOf("1,0,00", numberOf(1), numberOf(2), numberOf(3))
	checkFind(t, digits, []string{"0"}, numberOf(2), true)
	checkFind(t, digits, []string{"1"}, numberOf(1), true)
	checkFind(t, digits, []string{"00"}, numberOf(3), true)
	checkNothing(t, digits, "2")
}

// random answers values with few names, digits among them.
type random struct{ *rand.Rand }

func (r random) name() string {
	return []string{"", "0", "1", "2", "01", "a", "b", "~", "/", "~1", "\xff", "10"}[r.Intn(12)]
}

func (r random) value(levels int) api.Value {
	v := api.Value{Kind: r.Intn(6)}
	if levels == 0 || r.Intn(20) == 0 {
		return api.Value{Kind: r.Intn(9) - 1, N: r.Int63n(3), S: r.name()}
	}
	if r.Intn(8) != 0 {
		v.Kind = 4 + r.Intn(2)
	}
	for range r.Intn(6) {
		v.Items = append(v.Items, r.value(levels-1))
	}
	if v.Kind == 5 || r.Intn(8) == 0 {
		count := len(v.Items)
		if r.Intn(6) == 0 {
			count = r.Intn(6)
		}
		for range count {
			v.Names = append(v.Names, r.name())
		}
	}
	return v
}

// way is a path that often leads to something in v.
func (r random) way(v api.Value, most int) []string {
	var l []string
	for range r.Intn(most + 1) {
		part := r.name()
		if count := len(v.Items); count > 0 && r.Intn(15) != 0 {
			at := r.Intn(count)
			part = strconv.Itoa(at)
			if v.Kind == 5 && at < len(v.Names) {
				part = v.Names[at]
			}
			v = v.Items[at]
		}
		l = append(l, part)
	}
	return l
}

func TestFindAtRandom(t *testing.T) {
	r := random{rand.New(rand.NewSource(3))}
	found := map[int]int{}
	for range 20000 {
		v := r.value(5)
		for range 10 {
			l := r.way(v, 5)
			checkPlace(t, v, l)
			if _, ok := Find(v, l); ok {
				found[len(l)]++
			}
		}
	}
	for size := range 6 {
		if found[size] < 1000 {
			t.Errorf("only %d values were found at paths of %d parts", found[size], size)
		}
	}
}

// P15.5

func TestPathsAndTheirTexts(t *testing.T) {
	r := rand.New(rand.NewSource(4))
	texts := map[string][]string{}
	for range 50000 {
		l := pathAtRandom(r, 6)
		checkPath(t, l)
		other, is := texts[Put(l)]
		if is && !slices.Equal(l, other) {
			t.Fatalf("%q and %q have one text", l, other)
		}
		texts[Put(l)] = l
		if s := "/" + pieceAtRandom(r, 8); paths.MatchString(s) {
			parts, _ := Take(s)
			checkPut(t, parts, s)
		}
	}
}

// TestOnePathAfterTheOther: in steps or at once, the same is found.
func TestOnePathAfterTheOther(t *testing.T) {
	r := random{rand.New(rand.NewSource(5))}
	for range 20000 {
		v := r.value(5)
		l := r.way(v, 6)
		want, is := Find(v, l)
		for i := range len(l) + 1 {
			middle, ok := Find(v, l[:i])
			if !ok {
				checkNothing(t, v, l...)
				continue
			}
			checkFind(t, middle, l[i:], want, is)
		}
	}
}

func TestFindByTexts(t *testing.T) {
	v := objectOf("a/b,~,", listOf(numberOf(1), objectOf("~1", numberOf(2))), numberOf(3), objectOf(",/", listOf(), numberOf(4)))
	for text, want := range map[string]api.Value{"": v, "/a~1b/0": numberOf(1), "/a~1b/1/~01": numberOf(2), "/~0": numberOf(3), "/": v.Items[2], "//": listOf(), "//~1": numberOf(4)} {
		l, ok := Take(text)
		if !ok {
			t.Fatalf("Take(%q) is false", text)
		}
		checkFind(t, v, l, want, true)
	}
}

// R3: arguments are left as they are, with what is behind their ends, and results are memory of their own.

// spare is v, with a list behind the end of each of its lists.
func spare(v api.Value) api.Value {
	items := make([]api.Value, 0, len(v.Items)+3)
	for _, item := range v.Items {
		items = append(items, spare(item))
	}
	names := append(make([]string, 0, len(v.Names)+3), v.Names...)
	copy(items[len(items):cap(items)], []api.Value{numberOf(91), numberOf(92), numberOf(93)})
	copy(names[len(names):cap(names)], []string{"91", "92", "93"})
	v.Items, v.Names = items, names
	return v
}

// whole is all of v, with what is behind the ends of its lists, as one text.
func whole(v api.Value) string {
	v.Items, v.Names = v.Items[:cap(v.Items)], v.Names[:cap(v.Names)]
	all := fmt.Sprintf("%d %d %q %q %d(", v.Kind, v.N, v.S, v.Names, len(v.Items))
	for _, item := range v.Items {
		all += whole(item)
	}
	return all + ")"
}

// piece is a part of the memory: from a byte to the one behind its end.
type piece struct{ from, to uintptr }

// pieces are the memory of all lists in v, with what is behind their ends.
func pieces(v api.Value) []piece {
	var all []piece
	if cap(v.Items) > 0 {
		from := uintptr(unsafe.Pointer(unsafe.SliceData(v.Items)))
		all = append(all, piece{from, from + uintptr(cap(v.Items))*unsafe.Sizeof(v)})
	}
	if cap(v.Names) > 0 {
		from := uintptr(unsafe.Pointer(unsafe.SliceData(v.Names)))
		all = append(all, piece{from, from + uintptr(cap(v.Names))*unsafe.Sizeof("")})
	}
	for _, item := range v.Items {
		all = append(all, pieces(item)...)
	}
	return all
}

// bytesOf is the memory of a string.
func bytesOf(s string) piece {
	from := uintptr(unsafe.Pointer(unsafe.StringData(s)))
	return piece{from, from + uintptr(len(s))}
}

// apart tells whether no piece has bytes of another one.
func apart(all ...piece) bool {
	slices.SortFunc(all, func(a, b piece) int { return int(a.from) - int(b.from) })
	for i := 1; i < len(all); i++ {
		if all[i].from < all[i-1].to {
			return false
		}
	}
	return true
}

func TestFoundValuesAreNewMemory(t *testing.T) {
	r := random{rand.New(rand.NewSource(6))}
	for range 5000 {
		v := spare(r.value(4))
		l := r.way(v, 3)
		found, _ := Find(v, l)
		if !apart(append(pieces(v), pieces(found)...)...) {
			t.Fatalf("Find(%+v, %q) = %+v shares memory", v, l, found)
		}
	}
}

// TestListsOfOneResultShareNone, even where those of the argument do.
func TestListsOfOneResultShareNone(t *testing.T) {
	names, items := []string{"b", "a", "c"}, []api.Value{numberOf(1), numberOf(2), numberOf(3)}
	inner := api.Value{Kind: 5, Names: names, Items: items}
	for _, v := range []api.Value{
		inner,
		listOf(inner, inner),
		objectOf("b,a", inner, listOf(inner)),
		{Kind: 5, Names: names, Items: []api.Value{inner, inner, inner}},
		listOf(api.Value{Kind: 4, Items: items[:2]}, api.Value{Kind: 4, Items: items[1:]}, api.Value{Kind: 5, Names: names[1:2]}),
	} {
		for _, l := range [][]string{{}, {"0"}, {"0", "a"}} {
			holder := v
			for range l {
				holder = objectOf("0,a", holder, holder)
			}
			found, ok := Find(holder, l)
			if !ok || !tree.Same(found, v) || !apart(append(pieces(found), pieces(holder)[:1]...)...) {
				t.Fatalf("Find at %q of %+v = %+v, %t", l, v, found, ok)
			}
		}
	}
}

func TestTakenPartsAreNewMemory(t *testing.T) {
	for _, s := range []string{"/a", "/abc/def", "/a~1b/c", "//x/", "/" + strings.Repeat("x", 1000) + "/y", strings.Repeat("/~0z", 100)} {
		s = strings.Clone(s)
		l, _ := Take(s)
		for i, part := range l {
			if part != "" && !apart(bytesOf(s), bytesOf(part)) {
				t.Fatalf("part %d of Take(%q) is of its memory", i, s)
			}
		}
		again, _ := Take(s)
		want := slices.Clone(again)
		for i := range l {
			l[i] = "changed"
		}
		if !slices.Equal(again, want) {
			t.Fatalf("two results of Take(%q) share memory", s)
		}
		checkTake(t, s, want, true)
	}
	for _, part := range []string{"abc", "a/b", "~"} {
		part = strings.Clone(part)
		if l := []string{part}; !apart(bytesOf(part), bytesOf(Put(l))) || !apart(bytesOf(part), bytesOf(Join(part, ""))) || !apart(bytesOf(part), bytesOf(Join("", part))) {
			t.Fatalf("Put or Join of %q shares memory", part)
		}
	}
}

func TestArgumentsAreLeft(t *testing.T) {
	r := random{rand.New(rand.NewSource(7))}
	for range 3000 {
		v := spare(r.value(4))
		l := append(r.way(v, 4), "91", "92", "93")
		before, parts := whole(v), slices.Clone(l)
		Find(v, l[:len(l)-3])
		Put(l[:len(l)-3])
		if whole(v) != before || !slices.Equal(l, parts) {
			t.Fatalf("%s was changed to %s, or %q to %q", before, whole(v), parts, l)
		}
	}
}

// R1 and the bound: great arguments

// checkEnds fails if the calls take far longer than they need.
func checkEnds(t *testing.T, calls func()) {
	t.Helper()
	start := time.Now()
	calls()
	if took := time.Since(start); took > 20*time.Second {
		t.Errorf("the calls took %s", took)
	}
}

func TestVeryDeepValues(t *testing.T) {
	const levels = 65536
	for _, kinds := range []string{"[", "{", "[{"} {
		v, l := nested(textOf("inmost"), levels, kinds)
		checkEnds(t, func() {
			for _, size := range []int{0, 1, levels / 2, levels - 1} {
				if got, ok := Find(v, l[:size]); !ok || tree.Depth(got) != levels-size {
					t.Errorf("%s: Find at %d parts is %t, %d levels deep", kinds, size, ok, tree.Depth(got))
				}
			}
			if got, ok := Find(v, l); !ok || got.S != "inmost" {
				t.Errorf("%s: Find at %d parts = %+v, %t", kinds, levels, got, ok)
			}
			if got, ok := Find(v, append(l, l...)); ok || !tree.Same(got, null()) {
				t.Errorf("%s: Find at %d parts = %+v, %t", kinds, 2*levels, got, ok)
			}
		})
	}
}

// TestValuesThatAreMoreThanTheirMemory: lists that share their items are passed by, whatever is in them; only what is found is copied.
func TestValuesThatAreMoreThanTheirMemory(t *testing.T) {
	v, l := textOf("inmost"), []string{}
	for range 100 {
		v = listOf(v, v, v)
		l = append(l, "2")
	}
	within := objectOf("a,b", null(), null())
	within.Items[1] = within
	around := slices.Repeat([]string{"b"}, 1000)
	checkEnds(t, func() {
		if got, ok := Find(v, l); !ok || got.S != "inmost" {
			t.Error("Find of the inmost value")
		}
		if _, ok := Find(v, append(l, "2")); ok {
			t.Error("Find behind the inmost value is true")
		}
		if got, ok := Find(within, append(around, "a")); !ok || got.Kind != 0 {
			t.Error("Find in a value within itself")
		}
		if _, ok := Find(within, append(around, "c")); ok {
			t.Error("Find of a name that is nowhere in a value within itself")
		}
	})
}

func TestVeryWideValues(t *testing.T) {
	const count = 1000000
	list, object := numbers(count), api.Value{Kind: 5}
	for i := range count {
		object.Names = append(object.Names, strconv.Itoa(count-i))
		object.Items = append(object.Items, numberOf(int64(i)))
	}
	checkEnds(t, func() {
		for _, i := range []int{0, 1, 99999, 100000, count / 2, count - 1} {
			checkFound(t, list, strconv.Itoa(i), int64(i), true)
			checkFound(t, object, strconv.Itoa(count-i), int64(i), true)
		}
		checkFound(t, list, strconv.Itoa(count), 0, false)
		checkFound(t, list, "0999999", 0, false)
		checkFound(t, object, "0", 0, false)
	})
}

// checkFound is for values that are too great to be told.
func checkFound(t *testing.T, v api.Value, part string, want int64, is bool) {
	t.Helper()
	if got, ok := Find(v, []string{part}); ok != is || got.N != want {
		t.Fatalf("Find of %s among %d items = %d, %t", part, len(v.Items), got.N, ok)
	}
}

func TestVeryLongPaths(t *testing.T) {
	const count = 1 << 22
	l := slices.Repeat([]string{"", "~", "a/", "1"}, count/4)
	text := strings.Repeat("//~0/a~1/1", count/4)
	checkEnds(t, func() {
		if Put(l) != text {
			t.Errorf("Put of %d parts", count)
		}
		if got, ok := Take(text); !ok || !slices.Equal(got, l) {
			t.Errorf("Take of %d parts: %d, %t", count, len(got), ok)
		}
		for _, wrong := range []string{text[1:] + "~", text + "~", text + "~2", "/~" + text, text + "~" + text, "a" + text} {
			if got, ok := Take(wrong); ok || len(got) > 0 {
				t.Errorf("Take of what is no path: %d parts, %t", len(got), ok)
			}
		}
		if got, ok := Find(numbers(2), append([]string{"1"}, l...)); ok || !tree.Same(got, null()) {
			t.Errorf("Find of %d parts = %+v, %t", count, got, ok)
		}
	})
}

func TestVeryLongParts(t *testing.T) {
	for _, piece := range []string{"~", "/", "~/", "/~a", "0", "~01"} {
		part := strings.Repeat(piece, 1<<20)
		text := "/" + strings.ReplaceAll(strings.ReplaceAll(part, "~", "~0"), "/", "~1")
		checkEnds(t, func() {
			if Put([]string{part}) != text || Join("/x", part) != "/x"+text {
				t.Errorf("Put or Join of %q over and over", piece)
			}
			if got, ok := Take(text); !ok || len(got) != 1 || got[0] != part {
				t.Errorf("Take of %q over and over", piece)
			}
		})
	}
}

// TestFindOfTenDigits in a list that has as many items. It is of pages that the system keeps for none: all that is read there is 0.
func TestFindOfTenDigits(t *testing.T) {
	const count = 1e9 + 1
	size := int(unsafe.Sizeof(api.Value{})) * count
	pages, err := syscall.Mmap(-1, 0, size, syscall.PROT_READ, syscall.MAP_ANON|syscall.MAP_PRIVATE|syscall.MAP_NORESERVE)
	if err != nil {
		t.Skipf("no room for %d bytes: %v", size, err)
	}
	defer syscall.Munmap(pages)
	v := api.Value{Kind: 4, Items: unsafe.Slice((*api.Value)(unsafe.Pointer(&pages[0])), count)}
	for part, want := range map[string]bool{"0": true, "99999999": true, "100000000": true, "999999999": true, "1000000000": false, "1000000001": false, "0999999999": false} {
		if got, ok := Find(v, []string{part}); ok != want || !tree.Same(got, null()) {
			t.Errorf("Find of %s in %d items = %+v, %t", part, len(v.Items), got, ok)
		}
	}
}

func TestTheSameAnswerEachTime(t *testing.T) {
	r := random{rand.New(rand.NewSource(8))}
	for range 300 {
		v := r.value(4)
		l := r.way(v, 4)
		for range 20 {
			checkPath(t, l)
			checkPlace(t, v, l)
		}
	}
}
