package tree

import (
	"math"
	"math/rand"
	"reflect"
	"slices"
	"sort"
	"strconv"
	"strings"
	"testing"
	"time"
	"unicode/utf8"
	"unsafe"

	"stoplog/api"
)

// Values, written shortly.

func null() api.Value               { return api.Value{} }
func boolean(n int64) api.Value     { return api.Value{Kind: 1, N: n} }
func number(n int64) api.Value      { return api.Value{Kind: 2, N: n} }
func words(s string) api.Value      { return api.Value{Kind: 3, S: s} }
func list(l ...api.Value) api.Value { return api.Value{Kind: 4, Items: l} }

// object takes its names in one string, a name a letter.
func object(names string, l ...api.Value) api.Value {
	return api.Value{Kind: 5, Names: letters(names), Items: l}
}

func letters(s string) []string {
	var l []string
	for _, r := range s {
		l = append(l, string(r))
	}
	return l
}

// nested is v within that many lists or objects, in turn as the kinds say.
func nested(v api.Value, levels int, kinds ...int) api.Value {
	for i := range levels {
		if kinds[i%len(kinds)] == 5 {
			v = object("a", v)
		} else {
			v = list(v)
		}
	}
	return v
}

// What the functions must answer, by the chapter's own words.

func rightOf(v api.Value) bool {
	return formOf(v) && depthOf(v) <= 64
}

// formOf is all of the definition of a valid value but the limit of the depth.
func formOf(v api.Value) bool {
	rest := v
	rest.Kind = 0
	switch {
	case v.Kind < 0 || v.Kind > 5:
		return false
	case v.Kind == 1:
		if v.N != 0 && v.N != 1 {
			return false
		}
		rest.N = 0
	case v.Kind == 2:
		rest.N = 0
	case v.Kind == 3:
		if !utf8.ValidString(v.S) {
			return false
		}
		rest.S = ""
	case v.Kind == 4:
		rest.Items = nil
	case v.Kind == 5:
		if len(v.Names) != len(v.Items) {
			return false
		}
		for i, name := range v.Names {
			if !utf8.ValidString(name) || slices.Contains(v.Names[:i], name) {
				return false
			}
		}
		rest.Items, rest.Names = nil, nil
	}
	if !sameOf(rest, api.Value{}) {
		return false
	}
	for _, item := range v.Items {
		if !formOf(item) {
			return false
		}
	}
	return true
}

func depthOf(v api.Value) int {
	if v.Kind != 4 && v.Kind != 5 {
		return 0
	}
	depths := []int{0}
	for _, item := range v.Items {
		depths = append(depths, depthOf(item))
	}
	return slices.Max(depths) + 1
}

func countOf(v api.Value) int {
	count := 0
	for open := []api.Value{v}; len(open) > 0; count++ {
		last := open[len(open)-1]
		open = append(open[:len(open)-1], last.Items...)
	}
	return count
}

// sameOf compares by one text each, which has the lengths of all lists.
func sameOf(a, b api.Value) bool {
	return string(written(nil, a)) == string(written(nil, b))
}

func written(all []byte, v api.Value) []byte {
	for _, n := range []int64{int64(v.Kind), v.N, int64(len(v.Names)), int64(len(v.Items))} {
		all = append(strconv.AppendInt(all, n, 10), ' ')
	}
	all = strconv.AppendQuote(all, v.S)
	for _, name := range v.Names {
		all = strconv.AppendQuote(all, name)
	}
	for _, item := range v.Items {
		all = written(all, item)
	}
	return all
}

// members sorts the names and the items of a value together.
type members struct{ api.Value }

func (m members) Len() int           { return len(m.Names) }
func (m members) Less(i, j int) bool { return strings.Compare(m.Names[i], m.Names[j]) < 0 }
func (m members) Swap(i, j int) {
	m.Names[i], m.Names[j] = m.Names[j], m.Names[i]
	m.Items[i], m.Items[j] = m.Items[j], m.Items[i]
}

func sortOf(v api.Value) api.Value {
	v = copyOf(v)
	for i, item := range v.Items {
		v.Items[i] = sortOf(item)
	}
	if v.Kind == 5 && len(v.Names) == len(v.Items) {
		sort.Stable(members{v})
	}
	return v
}

func copyOf(v api.Value) api.Value {
	v.Names = append([]string{}, v.Names...)
	v.Items = append([]api.Value{}, v.Items...)
	for i, item := range v.Items {
		v.Items[i] = copyOf(item)
	}
	return v
}

func findOf(v api.Value, name string) (api.Value, bool) {
	for i, other := range v.Names {
		if v.Kind == 5 && other == name {
			return append(slices.Clip(v.Items), make([]api.Value, len(v.Names))...)[i], i < len(v.Items)
		}
	}
	return api.Value{}, false
}

// Checks of one call each.

func checkRight(t *testing.T, v api.Value, want bool) {
	t.Helper()
	if got := Right(v); got != want {
		t.Fatalf("Right(%+v) = %t", v, got)
	}
}

func checkDepth(t *testing.T, v api.Value, want int) {
	t.Helper()
	if got := Depth(v); got != want {
		t.Fatalf("Depth(%+v) = %d, want %d", v, got, want)
	}
}

func checkCount(t *testing.T, v api.Value, want int) {
	t.Helper()
	if got := Count(v); got != want {
		t.Fatalf("Count(%+v) = %d, want %d", v, got, want)
	}
}

func checkSame(t *testing.T, a, b api.Value, want bool) {
	t.Helper()
	if got, back := Same(a, b), Same(b, a); got != want || back != want {
		t.Fatalf("Same(%+v, %+v) = %t, and %t the other way round", a, b, got, back)
	}
}

func checkAlike(t *testing.T, a, b api.Value, want bool) {
	t.Helper()
	if got, back := Alike(a, b), Alike(b, a); got != want || back != want {
		t.Fatalf("Alike(%+v, %+v) = %t, and %t the other way round", a, b, got, back)
	}
}

func checkFind(t *testing.T, v api.Value, name string, want api.Value, is bool) {
	t.Helper()
	got, ok := Find(v, name)
	if ok != is || !sameOf(got, want) {
		t.Fatalf("Find(%+v, %q) = %+v, %t, want %+v, %t", v, name, got, ok, want, is)
	}
	if !ok && !reflect.DeepEqual(got, api.Value{}) {
		t.Fatalf("Find(%+v, %q) = %+v beside false", v, name, got)
	}
}

func checkSort(t *testing.T, v, want api.Value) {
	t.Helper()
	if got := Sort(v); !sameOf(got, want) {
		t.Fatalf("Sort(%+v) = %+v, want %+v", v, got, want)
	}
}

// checkAlone holds all that is asked of one value.
func checkAlone(t *testing.T, v api.Value) {
	t.Helper()
	checkRight(t, v, rightOf(v))
	checkDepth(t, v, depthOf(v))
	checkCount(t, v, countOf(v))
	checkSort(t, v, sortOf(v))
	checkSame(t, v, v, true)
	checkAlike(t, v, v, rightOf(v))
	for _, name := range append([]string{"", "a", "b", "c", "\xff"}, v.Names...) {
		item, ok := findOf(v, name)
		checkFind(t, v, name, item, ok)
	}
}

func checkPair(t *testing.T, a, b api.Value) {
	t.Helper()
	checkSame(t, a, b, sameOf(a, b))
	checkAlike(t, a, b, rightOf(a) && rightOf(b) && sameOf(sortOf(a), sortOf(b)))
}

// Values to be tried.

// shallow are values of all kinds, and of numbers that are none, with all of these fields; the items are taken from the list.
func shallow(items [][]api.Value) []api.Value {
	var all []api.Value
	for _, kind := range []int{math.MinInt, -1, 0, 1, 2, 3, 4, 5, 6, 256, 1<<32 + 4, math.MaxInt} {
		for _, n := range []int64{0, 1, 2, -1, 256, 1 << 32, 1<<32 + 1, math.MaxInt64, math.MinInt64} {
			for _, s := range []string{"", "a", "\x00", "\u00e9", "\xff"} {
				for _, l := range items {
					for _, names := range [][]string{nil, {}, {""}, {"a"}, {"b", "a"}, {"a", "a"}, {"b", "a", "b"}, {"\xc3"}, {"a", "\xff"}} {
						all = append(all, api.Value{Kind: kind, N: n, S: s, Items: l, Names: names})
					}
				}
			}
		}
	}
	return all
}

// random answers values that are valid, if they need be.
type random struct {
	*rand.Rand
	valid bool
}

// names are few, so that they come again, and some are prefixes of others.
func (r random) names(count int) []string {
	all := []string{"", "a", "aa", "a\x00", "b", "ab", "B", "\u00e9", "z", "10", "9", "\u20ac", "\U0001f600", "\uffff"}
	if !r.valid && r.Intn(3) == 0 {
		all = append(all, "\xff", "\xc3", "a\x80")
	}
	var l []string
	for len(l) < count {
		name := all[r.Intn(len(all))]
		if !slices.Contains(l, name) || !r.valid && r.Intn(4) == 0 {
			l = append(l, name)
		}
	}
	return l
}

func (r random) value(levels int) api.Value {
	v := api.Value{Kind: r.Intn(6)}
	if levels == 0 {
		v.Kind = r.Intn(4)
	}
	switch v.Kind {
	case 1:
		v.N = r.Int63n(2)
	case 2:
		v.N = r.Int63n(5) - 2
	case 3:
		v.S = r.names(1)[0]
	case 4:
		v.Items = r.items(r.Intn(5), levels-1)
	case 5:
		v.Items = r.items(r.Intn(6), levels-1)
		v.Names = r.names(len(v.Items))
	}
	if !r.valid && r.Intn(12) == 0 {
		r.spoil(&v, levels)
	}
	return v
}

func (r random) items(count, levels int) []api.Value {
	var l []api.Value
	for range count {
		l = append(l, r.value(levels))
	}
	return l
}

func (r random) spoil(v *api.Value, levels int) {
	switch r.Intn(5) {
	case 0:
		v.Kind = r.Intn(9) - 1
	case 1:
		v.N = r.Int63n(4) - 1
	case 2:
		v.S = r.names(1)[0]
	case 3:
		v.Names = r.names(r.Intn(5))
	case 4:
		v.Items = r.items(r.Intn(3), max(levels-1, 0))
	}
}

// shuffled is v with the members of each object in some order.
func (r random) shuffled(v api.Value) api.Value {
	v = copyOf(v)
	for i, item := range v.Items {
		v.Items[i] = r.shuffled(item)
	}
	if v.Kind == 5 && len(v.Names) == len(v.Items) {
		r.Shuffle(len(v.Names), members{v}.Swap)
	}
	return v
}

// places are pointers to all values in v.
func places(v *api.Value) []*api.Value {
	all := []*api.Value{v}
	for i := range v.Items {
		all = append(all, places(&v.Items[i])...)
	}
	return all
}

// changes are values that differ from v in one field, or in the order of one list.
func changes(v api.Value) []api.Value {
	swap := func(v *api.Value) {
		if len(v.Items) > 1 {
			v.Items[0], v.Items[1] = v.Items[1], v.Items[0]
		}
	}
	var all []api.Value
	for i := range places(&v) {
		for _, change := range []func(*api.Value){
			func(v *api.Value) { v.Kind++ },
			func(v *api.Value) { v.N++ },
			func(v *api.Value) { v.N += 1 << 32 },
			func(v *api.Value) { v.S += "\x00" },
			func(v *api.Value) { v.Items = append(v.Items, api.Value{}) },
			func(v *api.Value) { v.Items = v.Items[:max(len(v.Items)-1, 0)] },
			func(v *api.Value) { v.Names = append(v.Names, "") },
			func(v *api.Value) { v.Names = v.Names[:max(len(v.Names)-1, 0)] },
			func(v *api.Value) { slices.Reverse(v.Names) },
			func(v *api.Value) { slices.Reverse(v.Items) },
			swap,
		} {
			other := copyOf(v)
			change(places(&other)[i])
			all = append(all, other)
		}
	}
	return all
}

// P11.1

func TestRightExamples(t *testing.T) {
	for _, v := range []api.Value{
		null(), boolean(0), boolean(1), number(0), number(2), number(-1), number(math.MaxInt64), number(math.MinInt64),
		words(""), words("a"), words("\x00"), words("\u00e9\U0010ffff"), list(), object(""),
		list(null(), null()), list(list(), object("")), object("a", null()), object("ba", words("b"), number(7)),
		{Kind: 5, Items: []api.Value{null()}, Names: []string{""}},
		{Kind: 0, Items: []api.Value{}, Names: []string{}}, {Kind: 3, S: "a", Items: []api.Value{}, Names: []string{}},
		{Kind: 4, Items: []api.Value{null()}, Names: []string{}}, {Kind: 5, Items: []api.Value{}, Names: []string{}},
	} {
		checkRight(t, v, true)
	}
	for _, v := range []api.Value{
		boolean(2), boolean(-1), boolean(math.MinInt64), words("\xff"), words("a\xc3"), words("\xed\xa0\x80"),
		{Kind: 6}, {Kind: -1}, {Kind: math.MaxInt}, {Kind: math.MinInt}, {N: 1}, {S: "a"}, {Names: []string{""}}, {Items: []api.Value{null()}},
		{Kind: 1, S: "a"}, {Kind: 2, S: "2"}, {Kind: 3, N: 1}, {Kind: 4, N: 1}, {Kind: 4, S: "a"}, {Kind: 5, N: 1}, {Kind: 5, S: "a"},
		{Kind: 4, Items: []api.Value{null()}, Names: []string{"a"}}, {Kind: 4, Names: []string{""}},
		object("a"), object("", null()), object("a", null(), null()), object("ab", null()),
		object("aa", null(), null()), object("aba", null(), null(), null()), object("abb", null(), null(), null()),
		{Kind: 5, Items: []api.Value{null()}, Names: []string{"\xff"}}, {Kind: 5, Items: []api.Value{null(), null()}, Names: []string{"", ""}},
		list(boolean(2)), list(null(), words("\xff")), list(boolean(2), null()), object("ab", null(), object("a")),
	} {
		checkRight(t, v, false)
	}
}

func TestRightOfDeepValues(t *testing.T) {
	leaves := map[int][]api.Value{
		0: {null(), boolean(1), number(7), words("a")},
		1: {list(), object(""), list(null()), object("a", words("")), list(null(), number(7), null())},
		3: {list(null(), list(null(), object("", []api.Value{}...)), null())},
	}
	for own, values := range leaves {
		for _, leaf := range values {
			for _, kinds := range [][]int{{4}, {5}, {4, 5}, {5, 5, 4}} {
				for levels := range 70 {
					v := nested(leaf, levels, kinds...)
					checkRight(t, v, levels+own <= 64)
					checkRight(t, nested(boolean(2), levels, kinds...), false)
					checkAlike(t, v, v, levels+own <= 64)
					checkDepth(t, v, levels+own)
				}
			}
		}
	}
}

func TestRightLooksAtAllItems(t *testing.T) {
	deep := nested(null(), 64, 4)
	for _, wrong := range []api.Value{boolean(2), object("a"), deep, {Kind: 6}, {N: 1}} {
		for count := 1; count < 6; count++ {
			for at := range count {
				items := make([]api.Value, count)
				items[at] = wrong
				checkRight(t, list(items...), false)
				checkRight(t, object("abcde"[:count], items...), false)
				checkRight(t, list(list(), list(items...), list()), false)
				items[at] = deep.Items[0]
				checkRight(t, list(items...), true)
				checkRight(t, object("abcde"[:count], items...), true)
			}
		}
	}
}

func TestRightOfManyNames(t *testing.T) {
	const count = 3000
	v := api.Value{Kind: 5, Items: make([]api.Value, count)}
	for i := range count {
		v.Names = append(v.Names, strconv.Itoa(i*7%count))
	}
	checkRight(t, v, true)
	for _, at := range []int{0, 1, count / 2, count - 2, count - 1} {
		for _, name := range []string{v.Names[(at+1)%count], v.Names[(at+count/2)%count], v.Names[(at+count-1)%count], "\xff"} {
			other := copyOf(v)
			other.Names[at] = name
			checkRight(t, other, false)
			other.Names[at] = "x"
			checkRight(t, other, true)
		}
	}
}

// TestRightOfNamesThatDiffer: names that only look alike are different ones.
func TestRightOfNamesThatDiffer(t *testing.T) {
	names := []string{"", "\x00", "a", "A", "a\x00", "aa", "\u00e9", "e\u0301", " ", "a ", " a", "\ufeff", "\ufffd"}
	checkRight(t, api.Value{Kind: 5, Names: names, Items: make([]api.Value, len(names))}, true)
}

// P11.1 to P11.6, one value at a time

func TestAllShallowValues(t *testing.T) {
	for _, v := range shallow([][]api.Value{nil, {}, {null()}, {number(1), number(2)}, {boolean(2)}, {list(), object("ba", null(), number(1))}}) {
		checkAlone(t, v)
		checkRight(t, list(v), rightOf(v))
		checkRight(t, object("ab", null(), v), rightOf(v))
	}
}

func TestValuesAtRandom(t *testing.T) {
	for _, valid := range []bool{true, false} {
		r := random{rand.New(rand.NewSource(1)), valid}
		for range 20000 {
			v := r.value(r.Intn(5))
			if valid && !rightOf(v) {
				t.Fatalf("not valid: %+v", v)
			}
			checkAlone(t, v)
		}
	}
}

// P11.2

func TestDepthExamples(t *testing.T) {
	checkDepth(t, null(), 0)
	checkDepth(t, words("[[]]"), 0)
	checkDepth(t, list(), 1)
	checkDepth(t, object(""), 1)
	checkDepth(t, list(list()), 2)
	checkDepth(t, list(null(), number(1)), 1)
	checkDepth(t, object("ab", list(), list(list())), 3)
	checkDepth(t, list(list(list()), list(), null()), 3)
	checkDepth(t, api.Value{Kind: 5, Names: []string{"a"}}, 1)
	checkDepth(t, api.Value{Kind: 5, Items: []api.Value{list()}}, 2)
	for _, kind := range []int{-1, 0, 1, 2, 3, 6, math.MaxInt} {
		checkDepth(t, api.Value{Kind: kind, Items: []api.Value{list()}}, 0)
		checkDepth(t, list(api.Value{Kind: kind, Items: []api.Value{list()}}), 1)
	}
}

func TestCountExamples(t *testing.T) {
	checkCount(t, null(), 1)
	checkCount(t, list(), 1)
	checkCount(t, object("a"), 1)
	checkCount(t, list(null(), null()), 3)
	checkCount(t, object("ab", list(number(1)), list(list())), 5)
	checkCount(t, object("", null(), null()), 3)
	checkCount(t, nested(null(), 100, 4), 101)
	checkCount(t, api.Value{Items: []api.Value{null(), list(null())}}, 4)
}

// P11.3

func TestSameExamples(t *testing.T) {
	checkSame(t, null(), null(), true)
	checkSame(t, null(), boolean(0), false)
	checkSame(t, list(), object(""), false)
	checkSame(t, number(1), number(2), false)
	checkSame(t, words("a"), words("A"), false)
	checkSame(t, words("\u00e9"), words("e\u0301"), false)
	checkSame(t, list(number(1), number(2)), list(number(2), number(1)), false)
	checkSame(t, list(null()), list(null(), null()), false)
	checkSame(t, list(list(), null()), list(null(), list()), false)
	checkSame(t, object("ab", null(), null()), object("ba", null(), null()), false)
	checkSame(t, object("ab", number(1), number(2)), object("ba", number(2), number(1)), false)
	checkSame(t, object("ab", number(1), number(2)), object("ab", number(1), number(2)), true)
	checkSame(t, api.Value{Kind: 9, S: "\xff"}, api.Value{Kind: 9, S: "\xff"}, true)
	checkSame(t, api.Value{Kind: 9, S: "\xff"}, api.Value{Kind: 9, S: "\xfe"}, false)
	checkSame(t, api.Value{S: "\xff"}, api.Value{S: "\ufffd"}, false)
	checkSame(t, api.Value{Names: []string{"ab", "c"}}, api.Value{Names: []string{"a", "bc"}}, false)
	checkSame(t, api.Value{Names: []string{""}}, api.Value{}, false)
	checkSame(t, api.Value{S: "a", Names: nil}, api.Value{Names: []string{"a"}}, false)
}

func TestSameTakesNilForEmpty(t *testing.T) {
	for kind := -1; kind <= 6; kind++ {
		a, b := api.Value{Kind: kind}, api.Value{Kind: kind, Items: []api.Value{}, Names: make([]string, 0, 5)}
		checkSame(t, a, b, true)
		checkSame(t, list(a, b), list(b, a), true)
		checkAlike(t, a, b, kind >= 0 && kind <= 5)
	}
}

func TestSameOfEachChange(t *testing.T) {
	for _, v := range []api.Value{
		list(number(1), object("ab", words("x"), list(null(), boolean(1))), object("")),
		object("bac", list(list(number(2)), words("")), object("cb", boolean(0), null()), number(0)),
		{Kind: 2, N: 1, S: "\xff", Items: []api.Value{{Kind: 7, Names: []string{"a", "b"}}}, Names: []string{"c"}},
	} {
		all := changes(v)
		for i, other := range all {
			checkPair(t, v, other)
			checkPair(t, other, all[(i*7+3)%len(all)])
		}
	}
}

func TestSameOfShallowPairs(t *testing.T) {
	all := shallow([][]api.Value{nil, {}, {null()}, {number(1), number(2)}})
	r := rand.New(rand.NewSource(2))
	for range 100000 {
		checkPair(t, all[r.Intn(len(all))], all[r.Intn(len(all))])
	}
}

// P11.4

func TestAlikeExamples(t *testing.T) {
	a, b := object("ab", number(1), number(2)), object("ba", number(2), number(1))
	checkAlike(t, null(), null(), true)
	checkAlike(t, null(), list(), false)
	checkAlike(t, a, b, true)
	checkAlike(t, list(a, b), list(b, a), true)
	checkAlike(t, object("xy", a, b), object("yx", a, b), true)
	checkAlike(t, object("xy", a, null()), object("yx", null(), b), true)
	checkAlike(t, object("xy", a, null()), object("yx", b, null()), false)
	checkAlike(t, a, object("ba", number(1), number(2)), false)
	checkAlike(t, a, object("ac", number(1), number(2)), false)
	checkAlike(t, a, object("abc", number(1), number(2), null()), false)
	checkAlike(t, list(number(1), number(2)), list(number(2), number(1)), false)
	checkAlike(t, list(a, null()), list(null(), a), false)
	checkAlike(t, object("aa", null(), null()), object("aa", null(), null()), false)
	checkAlike(t, api.Value{N: 1}, api.Value{N: 1}, false)
	checkAlike(t, null(), api.Value{N: 1}, false)
	checkAlike(t, nested(null(), 65, 4), nested(null(), 65, 4), false)
	checkAlike(t, nested(a, 63, 4), nested(b, 63, 4), true)
	checkAlike(t, nested(a, 64, 4), nested(b, 64, 4), false)
}

func TestAlikeAtRandom(t *testing.T) {
	for _, valid := range []bool{true, false} {
		r := random{rand.New(rand.NewSource(3)), valid}
		for range 10000 {
			v := r.value(4)
			other := r.shuffled(v)
			checkPair(t, v, other)
			all := places(&other)
			one := all[r.Intn(len(all))]
			*one = r.value(1)
			checkPair(t, v, other)
		}
	}
}

// P11.5

func TestFindExamples(t *testing.T) {
	v := object("ba", number(1), list(number(2)))
	checkFind(t, v, "b", number(1), true)
	checkFind(t, v, "a", list(number(2)), true)
	checkFind(t, v, "c", null(), false)
	checkFind(t, v, "", null(), false)
	checkFind(t, v, "ba", null(), false)
	checkFind(t, v, "A", null(), false)
	checkFind(t, object("a", null()), "a", null(), true)
	checkFind(t, object(""), "", null(), false)
	checkFind(t, api.Value{Kind: 5, Names: []string{"a", ""}, Items: []api.Value{null(), words("x")}}, "", words("x"), true)
	checkFind(t, object("a", object("b", null())), "b", null(), false)
	for _, kind := range []int{-1, 0, 1, 2, 3, 4, 6, math.MaxInt} {
		checkFind(t, api.Value{Kind: kind, Names: []string{"a"}, Items: []api.Value{number(1)}}, "a", null(), false)
	}
}

func TestFindInValuesThatAreNotValid(t *testing.T) {
	twice := object("aba", number(1), number(2), number(3))
	checkFind(t, twice, "a", number(1), true)
	checkFind(t, twice, "b", number(2), true)
	checkFind(t, object("bab", null(), number(1)), "b", null(), true)
	checkFind(t, object("a"), "a", null(), false)
	checkFind(t, object("ab", number(1)), "a", number(1), true)
	checkFind(t, object("ab", number(1)), "b", null(), false)
	checkFind(t, object("aab", number(1)), "b", null(), false)
	checkFind(t, object("a", number(1), number(2)), "a", number(1), true)
	checkFind(t, object("", number(1)), "", null(), false)
	checkFind(t, object("a", api.Value{Kind: 8, S: "\xff"}), "a", api.Value{Kind: 8, S: "\xff"}, true)
	wrong := api.Value{Kind: 5, N: 7, S: "s", Names: []string{"\xff", "\ufffd"}, Items: []api.Value{number(1), number(2)}}
	checkFind(t, wrong, "\xff", number(1), true)
	checkFind(t, wrong, "\ufffd", number(2), true)
	checkFind(t, wrong, "\xfe", null(), false)
}

// TestFindTakesTheFirst: a later name with an item is not taken in place of an earlier one.
func TestFindTakesTheFirst(t *testing.T) {
	for count := range 8 {
		for given := range 10 {
			v := api.Value{Kind: 5}
			for i := range count {
				v.Names = append(v.Names, []string{"x", "a", "y", "a"}[i%4])
			}
			for i := range given {
				v.Items = append(v.Items, number(int64(i)))
			}
			is := count > 1 && given > 1
			want := null()
			if is {
				want = number(1)
			}
			checkFind(t, v, "a", want, is)
		}
	}
}

// P11.6

func TestSortExamples(t *testing.T) {
	checkSort(t, null(), null())
	checkSort(t, object("ba", number(1), number(2)), object("ab", number(2), number(1)))
	checkSort(t, list(number(2), number(1)), list(number(2), number(1)))
	checkSort(t, object("cab", number(1), number(2), number(3)), object("abc", number(2), number(3), number(1)))
	checkSort(t, object("baba", number(1), number(2), number(3), number(4)), object("aabb", number(2), number(4), number(1), number(3)))
	checkSort(t, object("ba"), object("ba"))
	checkSort(t, object("ba", number(1)), object("ba", number(1)))
	checkSort(t, object("ba", number(1), number(2), number(3)), object("ba", number(1), number(2), number(3)))
	inner, sorted := object("ba", number(1), number(2)), object("ab", number(2), number(1))
	checkSort(t, list(inner, null(), inner), list(sorted, null(), sorted))
	checkSort(t, object("ba", inner, list(inner)), object("ab", list(sorted), sorted))
	checkSort(t, object("ba", inner), object("ba", sorted))
	checkSort(t, object("ba", object("ba"), inner), object("ab", sorted, object("ba")))
	for _, kind := range []int{-1, 0, 1, 2, 3, 4, 6, 1<<32 + 5} {
		v := api.Value{Kind: kind, N: 3, S: "\xff", Names: []string{"b", "a"}, Items: []api.Value{inner, number(5)}}
		want := v
		want.Items = []api.Value{sorted, number(5)}
		checkSort(t, v, want)
	}
	wrong := api.Value{Kind: 5, N: -7, S: "\xff", Names: []string{"\xff", "a"}, Items: []api.Value{number(1), {Kind: 99, N: 2}}}
	checkSort(t, wrong, api.Value{Kind: 5, N: -7, S: "\xff", Names: []string{"a", "\xff"}, Items: []api.Value{{Kind: 99, N: 2}, number(1)}})
}

func TestSortIsBytewise(t *testing.T) {
	names := []string{"", "\x00", "\x00\x00", "\x01", " ", "-1", "10", "2", "9", "A", "Z", "a", "a\x00", "aB", "aa", "ab", "b",
		"e\u0301", "z", "\x7f", "\x80", "\u00e9", "\u20ac", "\uffff", "\U00010000", "\U0010ffff", "\xff", "\xff\x00"}
	want := api.Value{Kind: 5, Names: names}
	for i := range names {
		want.Items = append(want.Items, number(int64(i)))
	}
	r := random{Rand: rand.New(rand.NewSource(4))}
	for range 300 {
		checkSort(t, r.shuffled(want), want)
	}
	for i := range names {
		for j := range names {
			v := api.Value{Kind: 5, Names: []string{names[i], names[j]}, Items: []api.Value{number(1), number(2)}}
			kept := i <= j
			checkSame(t, Sort(v), v, kept)
		}
	}
}

// TestSortKeepsTheOrderOfEqualNames with so many members that a sort that does not would be seen.
func TestSortKeepsTheOrderOfEqualNames(t *testing.T) {
	r := rand.New(rand.NewSource(5))
	for _, count := range []int{2, 3, 11, 12, 13, 20, 50, 100, 1000, 5000} {
		for _, different := range []int{1, 2, 3, 10, count} {
			v := api.Value{Kind: 5}
			for i := range count {
				v.Names = append(v.Names, strconv.Itoa(r.Intn(different)))
				v.Items = append(v.Items, number(int64(i)))
			}
			got, want := Sort(v), sortOf(v)
			if !sameOf(got, want) {
				t.Fatalf("Sort of %d members with %d names: %v, want %v", count, different, got, want)
			}
		}
	}
}

// P11.7

func TestSortOfASortedValue(t *testing.T) {
	for _, valid := range []bool{true, false} {
		r := random{rand.New(rand.NewSource(6)), valid}
		for range 10000 {
			v := r.value(4)
			sorted := Sort(v)
			checkSort(t, sorted, sorted)
			checkRight(t, sorted, Right(v))
			checkDepth(t, sorted, Depth(v))
			checkCount(t, sorted, Count(v))
			checkAlike(t, v, sorted, Right(v))
		}
	}
}

func TestAnotherOrderOfMembersIsAlike(t *testing.T) {
	r := random{rand.New(rand.NewSource(7)), true}
	for range 10000 {
		v := r.value(4)
		other := r.shuffled(v)
		checkAlike(t, v, other, true)
		checkSame(t, Sort(v), Sort(other), true)
	}
}

// R3: arguments are left as they are, with what is behind their ends, and results are memory of their own.

// spare is v, with a list behind the end of each of its lists.
func spare(v api.Value) api.Value {
	items := make([]api.Value, 0, len(v.Items)+3)
	for _, item := range v.Items {
		items = append(items, spare(item))
	}
	names := append(make([]string, 0, len(v.Names)+3), v.Names...)
	copy(items[len(items):cap(items)], []api.Value{number(91), number(92), number(93)})
	copy(names[len(names):cap(names)], []string{"91", "92", "93"})
	v.Items, v.Names = items, names
	return v
}

// whole is a copy of v with what is behind the ends of its lists.
func whole(v api.Value) api.Value {
	v.Names = slices.Concat(v.Names[:cap(v.Names)])
	var items []api.Value
	for _, item := range v.Items[:cap(v.Items)] {
		items = append(items, whole(item))
	}
	v.Items = items
	return v
}

// piece is a part of the memory: from a byte to the one behind its end.
type piece struct{ from, to uintptr }

// pieces are the memory of all lists in v, with what is behind their ends.
func pieces(v api.Value) []piece {
	var all []piece
	if cap(v.Items) > 0 {
		from := uintptr(unsafe.Pointer(unsafe.SliceData(v.Items)))
		all = append(all, piece{from, from + uintptr(cap(v.Items))*unsafe.Sizeof(v)})
	}
	if cap(v.Names) > 0 {
		from := uintptr(unsafe.Pointer(unsafe.SliceData(v.Names)))
		all = append(all, piece{from, from + uintptr(cap(v.Names))*unsafe.Sizeof("")})
	}
	for _, item := range v.Items {
		all = append(all, pieces(item)...)
	}
	return all
}

// apart tells whether no piece has bytes of another one.
func apart(all []piece) bool {
	slices.SortFunc(all, func(a, b piece) int { return int(a.from) - int(b.from) })
	for i := 1; i < len(all); i++ {
		if all[i].from < all[i-1].to {
			return false
		}
	}
	return true
}

func checkNew(t *testing.T, what string, result api.Value, arguments ...piece) {
	t.Helper()
	if !apart(append(arguments, pieces(result)...)) {
		t.Fatalf("%s: the result %+v shares memory", what, result)
	}
}

func TestResultsAreNewMemory(t *testing.T) {
	for _, valid := range []bool{true, false} {
		r := random{rand.New(rand.NewSource(8)), valid}
		for range 3000 {
			v := spare(r.value(4))
			checkNew(t, "Sort", Sort(v), pieces(v)...)
			for _, name := range v.Names {
				found, _ := Find(v, name)
				checkNew(t, "Find", found, pieces(v)...)
			}
		}
	}
}

// TestListsOfOneResultShareNone, even where those of the argument do.
func TestListsOfOneResultShareNone(t *testing.T) {
	names := []string{"b", "a", "c"}
	items := []api.Value{number(1), number(2), number(3)}
	inner := api.Value{Kind: 5, Names: names, Items: items}
	for _, v := range []api.Value{
		list(inner, inner),
		object("ba", inner, list(inner)),
		{Kind: 5, Names: names, Items: []api.Value{inner, inner, inner}},
		list(api.Value{Kind: 4, Items: items[:2]}, api.Value{Kind: 4, Items: items[1:]}, api.Value{Kind: 5, Names: names[:1], Items: items[:1]}, api.Value{Kind: 5, Names: names[1:2]}),
	} {
		checkNew(t, "Sort", Sort(v))
		found, _ := Find(object("a", v), "a")
		checkNew(t, "Find", found)
		checkSort(t, v, sortOf(v))
	}
}

func TestArgumentsAreLeft(t *testing.T) {
	for _, valid := range []bool{true, false} {
		r := random{rand.New(rand.NewSource(9)), valid}
		for range 3000 {
			v := spare(r.value(4))
			other := spare(r.shuffled(v))
			before, after := whole(v), whole(other)
			checkAlone(t, v)
			checkPair(t, v, other)
			if !sameOf(whole(v), before) || !sameOf(whole(other), after) {
				t.Fatalf("%+v was changed to %+v, or %+v to %+v", before, whole(v), after, whole(other))
			}
		}
	}
}

// R1 and the bound: great values

// checkEnds fails if the calls take far longer than they need.
func checkEnds(t *testing.T, calls func()) {
	t.Helper()
	start := time.Now()
	calls()
	if took := time.Since(start); took > 30*time.Second {
		t.Errorf("the calls took %s", took)
	}
}

func TestVeryDeepValues(t *testing.T) {
	const levels = 65536
	for _, kinds := range [][]int{{4}, {5}, {4, 5}} {
		v, other := nested(null(), levels, kinds...), nested(number(1), levels, kinds...)
		checkEnds(t, func() {
			if Right(v) || Alike(v, v) {
				t.Errorf("%d levels are valid", levels)
			}
			if got := Depth(v); got != levels {
				t.Errorf("Depth is %d, want %d", got, levels)
			}
			if got := Count(v); got != levels+1 {
				t.Errorf("Count is %d, want %d", got, levels+1)
			}
			if !Same(v, v) || Same(v, other) || !Same(Sort(v), v) || !Same(Sort(other), other) {
				t.Errorf("Same, or Sort, of %d levels", levels)
			}
			if found, ok := Find(object("a", v), "a"); !ok || !Same(found, v) {
				t.Errorf("Find of %d levels", levels)
			}
		})
	}
}

func TestVeryWideValues(t *testing.T) {
	const count = 200000
	r := random{Rand: rand.New(rand.NewSource(10))}
	sorted := api.Value{Kind: 5}
	for i := range count {
		sorted.Names = append(sorted.Names, strconv.Itoa(1000000+i))
		sorted.Items = append(sorted.Items, number(int64(i)))
	}
	mixed := r.shuffled(sorted)
	checkEnds(t, func() {
		if !Right(mixed) || Depth(mixed) != 1 || Count(mixed) != count+1 {
			t.Errorf("Right, Depth or Count of %d members", count)
		}
		if Same(mixed, sorted) || !Alike(mixed, sorted) || !Same(Sort(mixed), sorted) {
			t.Errorf("Same, Alike or Sort of %d members", count)
		}
		for _, i := range []int{0, 1, count / 2, count - 1} {
			if found, ok := Find(mixed, sorted.Names[i]); !ok || found.N != int64(i) {
				t.Errorf("Find of %s: %v, %t", sorted.Names[i], found, ok)
			}
		}
		mixed.Names[count-1] = mixed.Names[0]
		if Right(mixed) {
			t.Errorf("%d members with a name twice are valid", count)
		}
	})
}

// TestRightStopsAtTheLimit: a value that is its own item is nested without end, and so not valid.
func TestRightStopsAtTheLimit(t *testing.T) {
	for _, kind := range []int{4, 5} {
		items := make([]api.Value, 2)
		names := []string{"a", "b"}
		if kind == 4 {
			names = nil
		}
		v := api.Value{Kind: kind, Items: items, Names: names}
		items[0], items[1] = null(), v
		checkEnds(t, func() {
			if Right(v) || Alike(v, v) || Alike(v, null()) || Alike(null(), v) {
				t.Errorf("a value of kind %d within itself is valid", kind)
			}
		})
	}
}

func TestTheSameAnswerEachTime(t *testing.T) {
	r := random{Rand: rand.New(rand.NewSource(11))}
	for range 300 {
		v, other := r.value(4), r.value(4)
		for range 20 {
			if Right(v) != rightOf(v) || Same(v, other) != sameOf(v, other) || !sameOf(Sort(v), sortOf(v)) {
				t.Fatalf("another answer for %+v", v)
			}
		}
	}
}
