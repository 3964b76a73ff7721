package jsonthree

import (
	"encoding/json"
	"fmt"
	"math"
	"math/rand"
	"slices"
	"strings"
	"testing"
	"time"
	"unsafe"

	"stoplog/api"
	"stoplog/parse"
	"stoplog/pointer"
	"stoplog/render"
	"stoplog/rule"
	"stoplog/setthree"
	"stoplog/tree"
)

// What the functions must answer, by the chapter's own words.

// order is that of the members.
var order = []string{"id", "note", "route", "priority", "kind", "rate", "per", "burst", "cost", "max", "fails", "wait", "probes"}

// mayNotMiss are the members that the object of a rule of a kind must have; of a kind that is not known, see below.
var mayNotMiss = map[string][]string{
	"bucket":  {"id", "route", "kind", "rate", "per", "burst"},
	"cap":     {"id", "route", "kind", "max"},
	"breaker": {"id", "route", "kind", "fails", "wait"},
}

func itemOf(v api.Value, name string) (api.Value, bool) {
	for i, n := range v.Names {
		if v.Kind == 5 && n == name {
			if i >= len(v.Items) {
				break
			}
			return v.Items[i], true
		}
	}
	return api.Value{}, false
}

func textOf(v api.Value, name string) (string, api.Errno) {
	item, ok := itemOf(v, name)
	if !ok {
		return "", 16
	}
	if item.Kind != 3 {
		return "", 15
	}
	return item.S, 0
}

func numberOf(v api.Value, name string) (int, api.Errno) {
	item, ok := itemOf(v, name)
	if !ok {
		return 0, 16
	}
	if item.Kind != 2 {
		return 0, 15
	}
	return int(item.N), 0
}

func knownOf(v api.Value, names []string) (string, bool) {
	for _, name := range v.Names {
		if !slices.Contains(names, name) {
			return name, false
		}
	}
	return "", true
}

// objectBy is the object of a rule that is canonical.
func objectBy(r api.Rule) api.Value {
	var l []any
	l = append(l, "id", r.Id)
	if r.Note != "" {
		l = append(l, "note", r.Note)
	}
	l = append(l, "route", r.Route, "priority", r.Priority)
	switch r.Kind {
	case 1:
		l = append(l, "kind", "bucket", "rate", r.Rate, "per", r.Per, "burst", r.Burst, "cost", r.Cost)
	case 2:
		l = append(l, "kind", "cap", "max", r.Max)
	case 3:
		l = append(l, "kind", "breaker", "fails", r.Fails, "wait", r.Wait, "probes", r.Probes)
	}
	return object(l...)
}

func putBy(l []api.Rule) (api.Value, string, api.Errno) {
	form, path, e := setthree.Canon(l)
	if e != 0 {
		return api.Value{}, path, e
	}
	var items []api.Value
	for _, r := range form {
		items = append(items, objectBy(r))
	}
	return list(items...), "", 0
}

// faultOf is the path in the item and the error of the first thing that is wrong with what it consists of.
func faultOf(item api.Value) (string, api.Errno) {
	if item.Kind != 5 {
		return "", 15
	}
	if name, ok := knownOf(item, order); !ok {
		return pointer.Put([]string{name}), 17
	}
	kind, _ := textOf(item, "kind")
	must, known := mayNotMiss[kind]
	if !known {
		must = []string{"id", "route", "kind"}
	}
	for _, name := range order {
		var e api.Errno
		switch name {
		case "id", "note", "route", "kind":
			_, e = textOf(item, name)
		default:
			_, e = numberOf(item, name)
		}
		if e == 15 || e == 16 && slices.Contains(must, name) {
			return "/" + name, e
		}
	}
	return "", 0
}

// ruleBy is the rule of an item that consists of what it should.
func ruleBy(item api.Value) api.Rule {
	text := func(name string) string { s, _ := textOf(item, name); return s }
	number := func(name string) int { n, _ := numberOf(item, name); return n }
	return api.Rule{
		Id: text("id"), Note: text("note"), Route: text("route"), Priority: number("priority"),
		Kind: map[string]int{"bucket": 1, "cap": 2, "breaker": 3}[text("kind")],
		Rate: number("rate"), Per: number("per"), Burst: number("burst"), Cost: number("cost"),
		Max: number("max"), Fails: number("fails"), Wait: number("wait"), Probes: number("probes"),
	}
}

func ofBy(v api.Value) ([]api.Rule, string, api.Errno) {
	if v.Kind != 4 {
		return nil, "", 15
	}
	if len(v.Items) >= 4097 {
		return nil, "", 12
	}
	var l []api.Rule
	for i, item := range v.Items {
		if path, e := faultOf(item); e != 0 {
			return nil, fmt.Sprintf("/%d%s", i, path), e
		}
		l = append(l, ruleBy(item))
	}
	return setthree.Canon(l)
}

// Checks of one call each.

func checkText(t *testing.T, v api.Value, name, want string, wrong api.Errno) {
	t.Helper()
	if got, e := Text(v, name); got != want || e != wrong {
		t.Fatalf("Text(%s, %q) = %q, %d, want %q, %d", told(v), name, got, e, want, wrong)
	}
}

func checkNumber(t *testing.T, v api.Value, name string, want int, wrong api.Errno) {
	t.Helper()
	if got, e := Number(v, name); got != want || e != wrong {
		t.Fatalf("Number(%s, %q) = %d, %d, want %d, %d", told(v), name, got, e, want, wrong)
	}
}

// checkMember holds both functions of one member against the oracles.
func checkMember(t *testing.T, v api.Value, name string) {
	t.Helper()
	s, e := textOf(v, name)
	checkText(t, v, name, s, e)
	n, e := numberOf(v, name)
	checkNumber(t, v, name, n, e)
}

func checkKnown(t *testing.T, v api.Value, names []string, want string, all bool) {
	t.Helper()
	if got, ok := Known(v, names); got != want || ok != all {
		t.Fatalf("Known(%s, %.1000q) = %q, %t, want %q, %t", told(v), names, got, ok, want, all)
	}
}

// checkPut holds Put against the oracle, and what it answers against P25.5.
func checkPut(t *testing.T, l ...api.Rule) {
	t.Helper()
	want, path, e := putBy(l)
	got, at, wrong := Put(l)
	if !tree.Same(got, want) || at != path || wrong != e {
		t.Fatalf("Put(%.2000s) = %s, %q, %d, want %s, %q, %d", fmt.Sprint(l), told(got), at, wrong, told(want), path, e)
	}
	if e != 0 {
		return
	}
	if !tree.Right(got) {
		t.Fatalf("Put(%.2000s) = %s is not valid", fmt.Sprint(l), told(got))
	}
	form, _, _ := setthree.Canon(l)
	checkRules(t, got, form)
}

// checkRules sees that v is read as that set.
func checkRules(t *testing.T, v api.Value, want []api.Rule) {
	t.Helper()
	got, path, e := Of(v)
	if !slices.Equal(got, want) || path != "" || e != 0 {
		t.Fatalf("Of(%s) = %.2000s, %q, %d, want %.2000s", told(v), fmt.Sprint(got), path, e, fmt.Sprint(want))
	}
}

// checkFault sees that v describes no set.
func checkFault(t *testing.T, v api.Value, path string, wrong api.Errno) {
	t.Helper()
	if got, at, e := Of(v); len(got) != 0 || at != path || e != wrong {
		t.Fatalf("Of(%s) = %.2000s, %q, %d, want %q, %d", told(v), fmt.Sprint(got), at, e, path, wrong)
	}
}

// checkOf holds Of against the oracle, and what was read against P25.5.
func checkOf(t *testing.T, v api.Value) {
	t.Helper()
	want, path, e := ofBy(v)
	if e != 0 {
		checkFault(t, v, path, e)
		return
	}
	checkRules(t, v, want)
	again, path, e := Put(want)
	if path != "" || e != 0 {
		t.Fatalf("Put(%.2000s) = %s, %q, %d", fmt.Sprint(want), told(again), path, e)
	}
	checkRules(t, again, want)
}

// checkItem is checkOf of a list of that item, alone and behind another one.
func checkItem(t *testing.T, item api.Value) {
	t.Helper()
	checkOf(t, list(item))
	checkOf(t, list(objectBy(limit("first")), item))
}

// told is a value, or its beginning if it is long.
func told(v api.Value) string {
	if len(v.Items) > 20 || len(v.Names) > 20 {
		return fmt.Sprintf("a value of kind %d, %d items and %d names", v.Kind, len(v.Items), len(v.Names))
	}
	return fmt.Sprintf("%.2000s", fmt.Sprintf("%+v", v))
}

// What is tried.

func text(s string) api.Value               { return api.Value{Kind: 3, S: s} }
func number[N ~int | ~int64](n N) api.Value { return api.Value{Kind: 2, N: int64(n)} }
func list(items ...api.Value) api.Value     { return api.Value{Kind: 4, Items: items} }

// object has the names and items in l, one behind the other.
func object(l ...any) api.Value {
	v := api.Value{Kind: 5}
	for i := 0; i < len(l); i += 2 {
		v.Names = append(v.Names, l[i].(string))
		v.Items = append(v.Items, item(l[i+1]))
	}
	return v
}

func item(a any) api.Value {
	switch x := a.(type) {
	case string:
		return text(x)
	case int:
		return number(x)
	case int64:
		return number(x)
	case bool:
		return api.Value{Kind: 1, N: map[bool]int64{true: 1}[x]}
	case api.Value:
		return x
	}
	return api.Value{}
}

// from is the value that a text of JSON describes.
func from(t *testing.T, s string) api.Value {
	t.Helper()
	v, at, e := parse.Parse(s)
	if e != 0 {
		t.Fatalf("%q is no JSON: %d at %d", s, e, at)
	}
	return v
}

// with is v with another item under the name, at the end if it has none; without is v without that name.
func with(v api.Value, name string, a any) api.Value {
	v.Names, v.Items = slices.Clone(v.Names), slices.Clone(v.Items)
	if at := slices.Index(v.Names, name); at >= 0 && at < len(v.Items) {
		v.Items[at] = item(a)
		return v
	}
	v.Names, v.Items = append(v.Names, name), append(v.Items, item(a))
	return v
}

func without(v api.Value, names ...string) api.Value {
	left := api.Value{Kind: v.Kind}
	for i, name := range v.Names {
		if !slices.Contains(names, name) && i < len(v.Items) {
			left.Names, left.Items = append(left.Names, name), append(left.Items, v.Items[i])
		}
	}
	return left
}

// bucket, limit and breaker are canonical, with that id.
func bucket(id string) api.Rule {
	return api.Rule{Id: id, Note: "a note", Route: "/", Priority: 3, Kind: 1, Rate: 1, Per: 100, Burst: 5, Cost: 2}
}

func limit(id string) api.Rule {
	return api.Rule{Id: id, Route: "/a/*", Priority: 7, Kind: 2, Max: 3}
}

func breaker(id string) api.Rule {
	return api.Rule{Id: id, Note: "\u00e9", Route: "/**", Priority: 1000, Kind: 3, Fails: 5, Wait: 60000, Probes: 2}
}

// each is one rule of each kind.
func each() []api.Rule {
	return []api.Rule{bucket("a"), limit("a"), breaker("a")}
}

// whole is the object of a rule with all members; the numbers of other kinds are 0.
func whole(r api.Rule) api.Value {
	return object("id", r.Id, "note", r.Note, "route", r.Route, "priority", r.Priority, "kind", rule.Kind(r.Kind),
		"rate", r.Rate, "per", r.Per, "burst", r.Burst, "cost", r.Cost,
		"max", r.Max, "fails", r.Fails, "wait", r.Wait, "probes", r.Probes)
}

// wrongKinds are items that are neither text nor number, with whatever other fields.
func wrongKinds() []api.Value {
	var l []api.Value
	for _, kind := range []int{0, 1, 4, 5, 6, 7, -1, -3, 35, 1 << 33, math.MinInt, math.MaxInt} {
		l = append(l, api.Value{Kind: kind}, api.Value{Kind: kind, N: 1, S: "a"})
		l = append(l, api.Value{Kind: kind, S: "bucket", Items: []api.Value{text("a"), number(1)}, Names: []string{"id", "rate"}})
	}
	return l
}

// notFor are items that a member of that name may not be.
func notFor(name string) []api.Value {
	if isText(name) {
		return append(wrongKinds(), number(0), number(1), api.Value{Kind: 2, N: 1, S: "a"})
	}
	return append(wrongKinds(), text(""), text("1"), api.Value{Kind: 3, N: 1})
}

func isText(name string) bool {
	return slices.Contains([]string{"id", "note", "route", "kind"}, name)
}

// valid is a rule with that id, of any kind, canonical or not.
func valid(r *rand.Rand, id string) api.Rule {
	one := api.Rule{Id: id, Route: []string{"/", "/a", "/a/*", "/**", "/a%2f/b~/**"}[r.Intn(5)], Kind: 1 + r.Intn(3)}
	if r.Intn(2) == 0 {
		one.Note = []string{"a note", "\u00e9", "\"\\\n", "\x00", strings.Repeat("x", 255)}[r.Intn(5)]
	}
	one.Priority = []int{0, 1, 7, 999, 1000}[r.Intn(5)]
	switch one.Kind {
	case 1:
		one.Rate, one.Per = r.Intn(1000001), 1+r.Intn(86400000)
		if r.Intn(2) == 0 {
			one.Rate, one.Per = r.Intn(20), 1+r.Intn(20)
		}
		one.Burst, one.Cost = 1+r.Intn(1000000), r.Intn(3)*r.Intn(501)
	case 2:
		one.Max = 1 + r.Intn(1000000)
	case 3:
		one.Fails, one.Wait, one.Probes = 1+r.Intn(1000), 1+r.Intn(86400000), r.Intn(3)*r.Intn(51)
	}
	return one
}

// setAtRandom is valid.
func setAtRandom(r *rand.Rand, size int) []api.Rule {
	var l []api.Rule
	for _, n := range r.Perm(3*size + 1)[:size] {
		l = append(l, valid(r, fmt.Sprintf("%s%d", []string{"a", "b.", "z_-"}[n%3], n)))
	}
	return l
}

// spelt is the object of a rule with members in any order, of which some that may be missing are.
func spelt(r *rand.Rand, one api.Rule) api.Value {
	v, must := whole(one), mayNotMiss[rule.Kind(one.Kind)]
	var left []string
	for i, name := range v.Names {
		bare := v.Items[i].N == 0 && v.Items[i].S == ""
		if bare && r.Intn(2) == 0 && !slices.Contains(must, name) {
			left = append(left, name)
		}
	}
	return shuffled(r, without(v, left...))
}

func shuffled(r *rand.Rand, v api.Value) api.Value {
	v.Names, v.Items = slices.Clone(v.Names), slices.Clone(v.Items)
	r.Shuffle(min(len(v.Names), len(v.Items)), func(i, j int) {
		v.Names[i], v.Names[j] = v.Names[j], v.Names[i]
		v.Items[i], v.Items[j] = v.Items[j], v.Items[i]
	})
	return v
}

// spoil makes one thing of the list another one, which may be right too.
func spoil(r *rand.Rand, v api.Value) api.Value {
	v.Items = slices.Clone(v.Items)
	if len(v.Items) == 0 {
		return v
	}
	at := r.Intn(len(v.Items))
	one := v.Items[at]
	name := order[r.Intn(len(order))]
	switch r.Intn(9) {
	case 0:
		one = without(one, name)
	case 1:
		l := notFor(name)
		one = with(one, name, l[r.Intn(len(l))])
	case 2:
		one = with(one, []string{"", "x", "a/b", "~", "Id", "id ", "/"}[r.Intn(7)], r.Intn(3))
	case 3:
		one = with(one, "kind", []string{"", "bucket", "cap", "breaker", "Cap", "rate", "caps", "1"}[r.Intn(8)])
	case 4:
		one = with(one, []string{"id", "note", "route", "kind"}[r.Intn(4)], []string{"", "a", "/x", "\xff", "cap"}[r.Intn(5)])
	case 5:
		one = with(one, name, []any{0, 1, -1, 1000, 1001, 1000001, 86400001, math.MaxInt, math.MinInt}[r.Intn(9)])
	case 6:
		one.Kind = r.Intn(8) - 1
	case 7:
		one.Items = one.Items[:r.Intn(len(one.Items)+1)]
	case 8:
		one = shuffled(r, with(one, "id", []string{"a1", "b.1", "A", ""}[r.Intn(4)]))
	}
	v.Items[at] = one
	return v
}

// P25.1

func TestTextExamples(t *testing.T) {
	v := object("a", "x", "b", "", "n", 5, "l", list(text("x")), "o", object("a", "y"), "t", true, "z", nil, "", "empty")
	checkText(t, v, "a", "x", api.OK)
	checkText(t, v, "b", "", api.OK)
	checkText(t, v, "", "empty", api.OK)
	for _, name := range []string{"n", "l", "o", "t", "z"} {
		checkText(t, v, name, "", api.ErrKind)
	}
	for _, name := range []string{"c", "A", "a ", " a", "aa", "a\x00", "ab", "x"} {
		checkText(t, v, name, "", api.ErrMissing)
	}
	checkText(t, object(), "a", "", api.ErrMissing)
	checkText(t, object(), "", "", api.ErrMissing)
	checkText(t, api.Value{}, "", "", api.ErrMissing)
	checkText(t, text("a"), "a", "", api.ErrMissing)
	checkText(t, list(text("a")), "0", "", api.ErrMissing)
	checkText(t, object("a", object("b", "x")), "b", "", api.ErrMissing)
}

func TestNumberExamples(t *testing.T) {
	v := object("a", 5, "b", 0, "s", "5", "l", list(number(1)), "o", object("a", 6), "t", true, "z", nil, "", -7)
	checkNumber(t, v, "a", 5, api.OK)
	checkNumber(t, v, "b", 0, api.OK)
	checkNumber(t, v, "", -7, api.OK)
	for _, name := range []string{"s", "l", "o", "t", "z"} {
		checkNumber(t, v, name, 0, api.ErrKind)
	}
	for _, name := range []string{"c", "A", "a ", " a", "aa", "a\x00", "ab", "5"} {
		checkNumber(t, v, name, 0, api.ErrMissing)
	}
	checkNumber(t, object(), "a", 0, api.ErrMissing)
	checkNumber(t, object(), "", 0, api.ErrMissing)
	checkNumber(t, api.Value{}, "", 0, api.ErrMissing)
	checkNumber(t, number(5), "", 0, api.ErrMissing)
	checkNumber(t, list(number(5)), "0", 0, api.ErrMissing)
	checkNumber(t, object("a", object("b", 1)), "b", 0, api.ErrMissing)
}

// TestMembersOfEachSize: all powers of two, their neighbours and negatives; texts with each byte and of each length.
func TestMembersOfEachSize(t *testing.T) {
	for shift := range 64 {
		for _, n := range []int64{1<<shift - 1, 1 << shift, 1<<shift + 1, -(1 << shift), ^(1 << shift)} {
			checkNumber(t, object("x", 3, "a", n), "a", int(n), api.OK)
			checkText(t, object("x", "y", "a", n), "a", "", api.ErrKind)
		}
	}
	for n := -2000; n <= 2000; n++ {
		checkNumber(t, object("a", n, "x", 4), "a", n, api.OK)
	}
	for b := range 256 {
		s := string([]byte{byte(b)})
		checkText(t, object("a", s), "a", s, api.OK)
		checkText(t, object(s, "it"), s, "it", api.OK)
		checkNumber(t, object(s, b), s, b, api.OK)
		checkText(t, object(s, "it"), s+s, "", api.ErrMissing)
		checkNumber(t, object("a", s), "a", 0, api.ErrKind)
	}
	for size := range 600 {
		s := strings.Repeat("x", size)
		checkText(t, object("a", s), "a", s, api.OK)
		checkText(t, object(s, s+"y"), s, s+"y", api.OK)
		checkNumber(t, object(s, size), s, size, api.OK)
	}
}

// TestMembersOfEachKind: of items of other kinds, no other field counts; nor does any of a value that is no object.
func TestMembersOfEachKind(t *testing.T) {
	for _, wrong := range wrongKinds() {
		v := object("x", "y", "a", wrong, "n", 2)
		checkText(t, v, "a", "", api.ErrKind)
		checkNumber(t, v, "a", 0, api.ErrKind)
		if wrong.Kind != api.VObject {
			holder := api.Value{Kind: wrong.Kind, N: 3, S: "s", Items: []api.Value{text("x"), number(1)}, Names: []string{"a", "b"}}
			checkText(t, holder, "a", "", api.ErrMissing)
			checkNumber(t, holder, "b", 0, api.ErrMissing)
		}
	}
	full := api.Value{N: 9, S: "s", Items: []api.Value{number(1), text("t")}, Names: []string{"a", "b"}}
	full.Kind = api.VText
	checkText(t, object("a", full), "a", "s", api.OK)
	checkNumber(t, object("a", full), "a", 0, api.ErrKind)
	full.Kind = api.VNumber
	checkNumber(t, object("a", full), "a", 9, api.OK)
	checkText(t, object("a", full), "a", "", api.ErrKind)
	full.Kind = api.VObject
	checkNumber(t, full, "a", 1, api.OK)
	checkText(t, full, "b", "t", api.OK)
}

// TestMembersThatAreThereTwice, or have no item, or no name.
func TestMembersThatAreThereTwice(t *testing.T) {
	checkText(t, object("a", "x", "a", "y"), "a", "x", api.OK)
	checkText(t, object("a", 1, "a", "y"), "a", "", api.ErrKind)
	checkText(t, object("b", 1, "a", "y", "a", 5), "a", "y", api.OK)
	checkNumber(t, object("a", 1, "a", 2), "a", 1, api.OK)
	checkNumber(t, object("a", "x", "a", 2), "a", 0, api.ErrKind)
	checkNumber(t, object("b", "x", "a", 2, "a", ""), "a", 2, api.OK)
	v := object("a", "x", "b", 2)
	v.Items = v.Items[:1]
	checkText(t, v, "a", "x", api.OK)
	checkText(t, v, "b", "", api.ErrMissing)
	checkNumber(t, v, "a", 0, api.ErrKind)
	checkNumber(t, v, "b", 0, api.ErrMissing) // though there is one in the spare capacity
	v = object("a", "x", "b", 2)
	v.Names = v.Names[:1]
	checkText(t, v, "a", "x", api.OK)
	checkNumber(t, v, "b", 0, api.ErrMissing)
	v.Items = nil
	checkText(t, v, "a", "", api.ErrMissing)
}

// TestMembersAtEachPlace of objects of each size.
func TestMembersAtEachPlace(t *testing.T) {
	v := object()
	for size := range 300 {
		for i := range size {
			name := fmt.Sprint("n", i)
			if i%2 == 0 {
				checkText(t, v, name, fmt.Sprint("s", i), api.OK)
				checkNumber(t, v, name, 0, api.ErrKind)
			} else {
				checkNumber(t, v, name, i, api.OK)
				checkText(t, v, name, "", api.ErrKind)
			}
		}
		next := fmt.Sprint("n", size)
		checkText(t, v, next, "", api.ErrMissing)
		checkNumber(t, v, next, 0, api.ErrMissing)
		v = with(v, next, []any{fmt.Sprint("s", size), size}[size%2])
	}
}

func TestMembersAtRandom(t *testing.T) {
	r := rand.New(rand.NewSource(1))
	names := []string{"", "a", "b", "aa", "id", "\xff"}
	for range 60000 {
		v := api.Value{Kind: 5}
		if r.Intn(6) == 0 {
			v.Kind = r.Intn(8) - 1
		}
		for range r.Intn(5) {
			v.Names = append(v.Names, names[r.Intn(len(names))])
		}
		for range r.Intn(5) {
			v.Items = append(v.Items, api.Value{Kind: r.Intn(8) - 1, N: int64(r.Intn(5) - 2), S: names[r.Intn(len(names))]})
		}
		for _, name := range names {
			checkMember(t, v, name)
		}
	}
}

// P25.2

func TestKnownExamples(t *testing.T) {
	v := object("a", 1, "b", 2)
	checkKnown(t, v, []string{"a", "b"}, "", true)
	checkKnown(t, v, []string{"b", "a"}, "", true)
	checkKnown(t, v, []string{"c", "b", "b", "a", ""}, "", true)
	checkKnown(t, v, []string{"a"}, "b", false)
	checkKnown(t, v, []string{"b"}, "a", false)
	checkKnown(t, v, nil, "a", false)
	checkKnown(t, v, []string{}, "a", false)
	checkKnown(t, v, []string{"A", "B", "ab", "a ", "b\x00"}, "a", false)
	checkKnown(t, object(), nil, "", true)
	checkKnown(t, object(), []string{"a"}, "", true)
	checkKnown(t, object("", 1), nil, "", false)
	checkKnown(t, object("", 1), []string{""}, "", true)
	checkKnown(t, object("", 1, "a", 2), []string{""}, "a", false)
	checkKnown(t, object("a", 2, "", 1), []string{"a"}, "", false)
	checkKnown(t, object("a", 1, "a", 2), []string{"a"}, "", true)
	checkKnown(t, object("x", 1, "y", 2, "x", 3), []string{"x"}, "y", false)
	checkKnown(t, object("a", object("x", 1)), []string{"a"}, "", true)
	checkKnown(t, object("a/b", 1, "~", 2), []string{"a/b"}, "~", false)
}

// TestKnownLooksAtNamesAlone: whatever kind the value is of, and whether there are items for them.
func TestKnownLooksAtNamesAlone(t *testing.T) {
	for kind := -2; kind <= 9; kind++ {
		for items := range 4 {
			v := api.Value{Kind: kind, N: 7, S: "s", Items: make([]api.Value, items), Names: []string{"a", "b", "c"}}
			checkKnown(t, v, []string{"a", "b", "c"}, "", true)
			checkKnown(t, v, []string{"a", "c"}, "b", false)
			checkKnown(t, v, []string{"a", "b", "s"}, "c", false)
			v.Names = v.Names[:2]
			checkKnown(t, v, []string{"a", "b"}, "", true)
			v.Names = nil
			checkKnown(t, v, nil, "", true)
		}
	}
}

// TestKnownOfAllShortLists: up to four names of v, and all sets of those that are known.
func TestKnownOfAllShortLists(t *testing.T) {
	all := []string{"", "a", "b", "ab"}
	for size := range 5 {
		for n := range 1 << (2 * size) {
			v := api.Value{Kind: 5, Items: make([]api.Value, size)}
			for i := range size {
				v.Names = append(v.Names, all[n>>(2*i)&3])
			}
			for set := range 16 {
				var names []string
				for i, name := range all {
					if set>>i&1 == 1 {
						names = append(names, name)
					}
				}
				want, ok := knownOf(v, names)
				checkKnown(t, v, names, want, ok)
				slices.Reverse(names)
				checkKnown(t, v, append(names, names...), want, ok)
			}
		}
	}
}

// TestKnownOfEachByte, in names of one and two bytes.
func TestKnownOfEachByte(t *testing.T) {
	var ones, twos []string
	for b := range 256 {
		ones = append(ones, string([]byte{byte(b)}))
		twos = append(twos, string([]byte{'a', byte(b)}))
	}
	v := api.Value{Kind: 5, Names: append(slices.Clone(ones), twos...)}
	checkKnown(t, v, append(slices.Clone(twos), ones...), "", true)
	for b := range 256 {
		checkKnown(t, v, append(slices.Delete(slices.Clone(ones), b, b+1), twos...), ones[b], false)
		checkKnown(t, v, append(slices.Delete(slices.Clone(twos), b, b+1), ones...), twos[b], false)
		checkKnown(t, object(ones[b], 1), []string{strings.ToValidUTF8(ones[b], "\ufffd")}, map[bool]string{true: ones[b]}[b > 127], b < 128)
	}
}

// TestKnownOfEachPlace: the unknown name is told wherever it is, in lists of any size.
func TestKnownOfEachPlace(t *testing.T) {
	var names []string
	for i := range 200 {
		names = append(names, fmt.Sprint("n", i))
	}
	for size := range 200 {
		v := api.Value{Kind: 5, Names: slices.Clone(names[:size])}
		checkKnown(t, v, names, "", true)
		checkKnown(t, v, names[:size], "", true)
		for at := range size {
			checkKnown(t, v, names[:at], names[at], false)
			v.Names[at] = "x"
			checkKnown(t, v, names, "x", false)
			v.Names[size-1] = "y"
			checkKnown(t, v, names, map[bool]string{true: "y", false: "x"}[at == size-1], false)
			v.Names[at], v.Names[size-1] = names[at], names[size-1]
		}
	}
}

// P25.3

func TestPutExamples(t *testing.T) {
	rules := []api.Rule{{Id: "a", Route: "/x", Kind: 1, Rate: 10, Per: 1000, Burst: 3}}
	checkRender(t, rules, `[{"id":"a","route":"/x","priority":0,"kind":"bucket","rate":1,"per":100,"burst":3,"cost":1}]`)
	checkRender(t, nil, `[]`)
	checkRender(t, []api.Rule{}, `[]`)
	checkRender(t, []api.Rule{limit("c")}, `[{"id":"c","route":"/a/*","priority":7,"kind":"cap","max":3}]`)
	checkRender(t, []api.Rule{breaker("b"), bucket("a")}, `[`+
		`{"id":"a","note":"a note","route":"/","priority":3,"kind":"bucket","rate":1,"per":100,"burst":5,"cost":2},`+
		`{"id":"b","note":"`+"\u00e9"+`","route":"/**","priority":1000,"kind":"breaker","fails":5,"wait":60000,"probes":2}]`)
	checkRender(t, []api.Rule{{Id: "r", Route: "/", Kind: 1, Per: 60, Burst: 1}}, `[{"id":"r","route":"/","priority":0,"kind":"bucket","rate":0,"per":1,"burst":1,"cost":1}]`)
	checkRender(t, []api.Rule{{Id: "w", Route: "/", Kind: 3, Fails: 1, Wait: 2}}, `[{"id":"w","route":"/","priority":0,"kind":"breaker","fails":1,"wait":2,"probes":1}]`)
	checkRender(t, []api.Rule{{Id: "m", Route: "/", Kind: 2, Max: 1}}, `[{"id":"m","route":"/","priority":0,"kind":"cap","max":1}]`)
}

// checkRender sees how the value of a set is written.
func checkRender(t *testing.T, l []api.Rule, want string) {
	t.Helper()
	v, path, e := Put(l)
	if path != "" || e != api.OK || v.Kind != api.VList {
		t.Fatalf("Put(%v) = %s, %q, %d", l, told(v), path, e)
	}
	if got, e := render.Put(v); got != want || e != api.OK {
		t.Fatalf("Put(%v) is written as %s, %d, want %s", l, got, e, want)
	}
	checkPut(t, l...)
}

// TestPutOfEachNumber: at its limits, in a rule of its kind and in rules of others.
func TestPutOfEachNumber(t *testing.T) {
	numbers := []func(r *api.Rule) *int{
		func(r *api.Rule) *int { return &r.Priority },
		func(r *api.Rule) *int { return &r.Kind },
		func(r *api.Rule) *int { return &r.Rate },
		func(r *api.Rule) *int { return &r.Per },
		func(r *api.Rule) *int { return &r.Burst },
		func(r *api.Rule) *int { return &r.Cost },
		func(r *api.Rule) *int { return &r.Max },
		func(r *api.Rule) *int { return &r.Fails },
		func(r *api.Rule) *int { return &r.Wait },
		func(r *api.Rule) *int { return &r.Probes },
	}
	tried := []int{math.MinInt, -1, 0, 1, 2, 3, 4, 5, 99, 100, 101, 999, 1000, 1001, 86399, 999999, 1000000, 1000001, 86399999, 86400000, 86400001, 1 << 32, math.MaxInt}
	for _, base := range each() {
		for _, number := range numbers {
			for _, n := range tried {
				r := base
				*number(&r) = n
				checkPut(t, r)
				checkPut(t, limit("x"), r)
			}
		}
	}
}

// TestPutOfEachNote and each other string: with each byte, at the limits, and none.
func TestPutOfEachNote(t *testing.T) {
	for _, base := range each() {
		for b := range 256 {
			r := base
			r.Note = string([]byte{byte(b)})
			checkPut(t, r)
			r = base
			r.Id = "a" + string([]byte{byte(b)})
			checkPut(t, r)
			r = base
			r.Route = "/" + string([]byte{byte(b)})
			checkPut(t, r)
		}
		for _, note := range []string{"", " ", "\x00", "note", strings.Repeat("x", 255), strings.Repeat("x", 256), "\u00e9\u4e16\U0001f600", "\ufffd", "\xed\xa0\x80"} {
			r := base
			r.Note = note
			checkPut(t, r)
		}
		for size := range 70 {
			r := base
			r.Id = strings.Repeat("a", size)
			checkPut(t, r)
		}
	}
}

// TestPutOfWrongSets: the first thing that is wrong is told, and nothing else.
func TestPutOfWrongSets(t *testing.T) {
	checkPutFault := func(path string, wrong api.Errno, l ...api.Rule) {
		t.Helper()
		v, at, e := Put(l)
		if !tree.Same(v, api.Value{}) || at != path || e != wrong {
			t.Fatalf("Put(%.2000s) = %s, %q, %d, want %q, %d", fmt.Sprint(l), told(v), at, e, path, wrong)
		}
		checkPut(t, l...)
	}
	twice := []api.Rule{limit("b"), bucket("a"), breaker("b")}
	checkPutFault("/2/id", api.ErrTwice, twice...)
	checkPutFault("/0/id", api.ErrId, api.Rule{})
	checkPutFault("/1/id", api.ErrId, limit("z"), api.Rule{})
	wrong := limit("a")
	wrong.Route = "x"
	checkPutFault("/1/route", api.ErrRoute, limit("z"), wrong, api.Rule{})
	wrong = breaker("a")
	wrong.Wait = 0
	checkPutFault("/2/wait", api.ErrRange, limit("z"), limit("y"), wrong)
	wrong.Rate = 1
	checkPutFault("/0/rate", api.ErrUnknown, wrong, wrong)
	wrong = bucket("a")
	wrong.Note = "\xff"
	checkPutFault("/0/note", api.ErrText, wrong)
	wrong.Kind = 4
	wrong.Note = ""
	checkPutFault("/0/kind", api.ErrKind, wrong)
	checkPutFault("", api.ErrMany, make([]api.Rule, 4097)...)
	checkPutFault("", api.ErrMany, many(4097)...)
	checkPut(t, many(4096)...)
	checkPut(t, many(4095)...)
	checkPutFault("/4095/id", api.ErrTwice, append(many(4095), many(1)...)...)
}

// many are so many rules, in their canonical form.
func many(size int) []api.Rule {
	l := make([]api.Rule, size)
	for i := range l {
		l[i] = each()[i%3]
		l[i].Id = fmt.Sprintf("r%07d", i)
	}
	return l
}

func TestPutAtRandom(t *testing.T) {
	r := rand.New(rand.NewSource(2))
	for range 5000 {
		l := setAtRandom(r, r.Intn(8))
		checkPut(t, l...)
		if len(l) > 1 {
			l[r.Intn(len(l))].Id = l[r.Intn(len(l))].Id
			checkPut(t, l...)
			l[r.Intn(len(l))] = api.Rule{Id: "a", Route: "/", Kind: r.Intn(5), Max: r.Intn(2), Fails: r.Intn(2), Wait: 1}
			checkPut(t, l...)
		}
	}
	for range 20 {
		checkPut(t, setAtRandom(r, r.Intn(1000))...)
	}
}

// P25.4

func TestOfExamples(t *testing.T) {
	fault := func(s, path string, e api.Errno) {
		t.Helper()
		checkFault(t, from(t, s), path, e)
		checkOf(t, from(t, s))
	}
	fault(`[{}]`, "/0/id", api.ErrMissing)
	fault(`[{"a/b":1}]`, "/0/a~1b", api.ErrUnknown)
	fault(`[{"id":"a","a/b":1}]`, "/0/a~1b", api.ErrUnknown)
	fault(`[{"~":1,"a/b":1}]`, "/0/~0", api.ErrUnknown)
	fault(`[{"":1}]`, "/0/", api.ErrUnknown)
	fault(`[{"id":"a","route":"/","kind":"cap"}]`, "/0/max", api.ErrMissing)
	fault(`[{"route":"/","kind":"cap","max":1}]`, "/0/id", api.ErrMissing)
	fault(`[{"id":"a","kind":"cap","max":1}]`, "/0/route", api.ErrMissing)
	fault(`[{"id":"a","route":"/","max":1}]`, "/0/kind", api.ErrMissing)
	fault(`[{"id":"a","route":"/","kind":"x"}]`, "/0/kind", api.ErrKind)
	fault(`[{"id":"a","route":"/","kind":"x","rate":"y"}]`, "/0/rate", api.ErrKind)
	fault(`[{"id":"a","route":"/","kind":1}]`, "/0/kind", api.ErrKind)
	fault(`[{"id":"a","route":"/","kind":"cap","max":1,"cost":1}]`, "/0/cost", api.ErrUnknown)
	fault(`[{"id":1}]`, "/0/id", api.ErrKind)
	fault(`[1]`, "/0", api.ErrKind)
	fault(`[[]]`, "/0", api.ErrKind)
	for _, s := range []string{`null`, `true`, `0`, `"[]"`, `{}`, `{"id":"a","route":"/","kind":"cap","max":1}`} {
		fault(s, "", api.ErrKind)
	}
	fault(`[{"id":"b","route":"/","kind":"cap","max":1},{"id":"a","route":"/","kind":"cap","max":1},{"id":"b","route":"/","kind":"cap","max":1}]`, "/2/id", api.ErrTwice)
	checkRules(t, from(t, `[]`), nil)
	checkRules(t, from(t, `[{"id":"a","route":"/","kind":"cap","max":1}]`), []api.Rule{{Id: "a", Route: "/", Kind: 2, Max: 1}})
	checkRules(t, from(t, `[{"max":1,"kind":"cap","route":"/","id":"a"}]`), []api.Rule{{Id: "a", Route: "/", Kind: 2, Max: 1}})
	checkRules(t, from(t, `[{"id":"b","note":"n","route":"/x","priority":9,"kind":"bucket","rate":10,"per":1000,"burst":3},{"id":"a","route":"/","kind":"breaker","fails":1,"wait":2}]`), []api.Rule{
		{Id: "a", Route: "/", Kind: 3, Fails: 1, Wait: 2, Probes: 1},
		{Id: "b", Note: "n", Route: "/x", Priority: 9, Kind: 1, Rate: 1, Per: 100, Burst: 3, Cost: 1},
	})
	checkRules(t, from(t, `[{"id":"a","note":"","route":"/","priority":0,"kind":"cap","rate":0,"per":0,"burst":0,"cost":0,"max":4,"fails":0,"wait":0,"probes":0}]`), []api.Rule{{Id: "a", Route: "/", Kind: 2, Max: 4}})
}

// TestOfEachKindOfValue: only a list is one, whatever other fields there are; and only an object is an item.
func TestOfEachKindOfValue(t *testing.T) {
	right := objectBy(limit("a"))
	for _, kind := range []int{math.MinInt, -1, 0, 1, 2, 3, 4, 5, 6, 7, 8, 36, 1<<32 + 4, math.MaxInt} {
		v := api.Value{Kind: kind, N: 4, S: "[]", Items: []api.Value{right}, Names: []string{"id"}}
		item := right
		item.Kind, item.N, item.S = kind, 5, "{}"
		if kind == api.VList {
			checkRules(t, v, []api.Rule{limit("a")})
		} else {
			checkFault(t, v, "", api.ErrKind)
			v.Items = make([]api.Value, 5000)
			checkFault(t, v, "", api.ErrKind)
		}
		if kind == api.VObject {
			checkRules(t, list(item), []api.Rule{limit("a")})
			continue
		}
		for at := range 12 {
			v := list()
			for i := range 12 {
				v.Items = append(v.Items, objectBy(limit(fmt.Sprint("a", i))))
			}
			v.Items[at] = item
			checkFault(t, v, fmt.Sprint("/", at), api.ErrKind)
		}
	}
}

// TestOfManyItems: that there are too many counts ahead of what is wrong with one of them.
func TestOfManyItems(t *testing.T) {
	for size := 4090; size <= 4100; size++ {
		v := list()
		for _, r := range many(size) {
			v.Items = append(v.Items, objectBy(r))
		}
		if size <= 4096 {
			checkRules(t, v, many(size))
		} else {
			checkFault(t, v, "", api.ErrMany)
		}
		for _, at := range []int{0, 1, 9, 10, 99, 100, 999, 1000, 2048, size - 2, size - 1} {
			held := v.Items[at]
			for _, wrong := range []api.Value{{}, object(), object("x", 1), with(held, "id", "A")} {
				v.Items[at] = wrong
				if size <= 4096 {
					checkFaultAt(t, v, at)
				} else {
					checkFault(t, v, "", api.ErrMany)
				}
			}
			v.Items[at] = held
		}
	}
	for _, size := range []int{4097, 5000, 8192, 65536, 65537, 1 << 20} {
		checkFault(t, list(make([]api.Value, size)...), "", api.ErrMany)
	}
	checkFault(t, list(make([]api.Value, 4096)...), "/0", api.ErrKind)
}

// checkFaultAt sees that the item at that place is wrong, in the way that the oracle finds.
func checkFaultAt(t *testing.T, v api.Value, at int) {
	t.Helper()
	_, path, e := ofBy(v)
	if e == 0 || path != fmt.Sprint("/", at) && !strings.HasPrefix(path, fmt.Sprint("/", at, "/")) {
		t.Fatalf("the oracle is wrong: %q, %d at %d", path, e, at)
	}
	checkFault(t, v, path, e)
}

// TestOfEachPlace: the path has the index of the item.
func TestOfEachPlace(t *testing.T) {
	v := list()
	for _, r := range many(4096) {
		v.Items = append(v.Items, objectBy(r))
	}
	for at := 0; at < 4096; at += 1 + at/20 {
		held := v.Items[at]
		v.Items[at] = list()
		checkFault(t, v, fmt.Sprint("/", at), api.ErrKind)
		v.Items[at] = with(held, "a/b", 1)
		checkFault(t, v, fmt.Sprintf("/%d/a~1b", at), api.ErrUnknown)
		v.Items[at] = with(held, "kind", nil)
		checkFault(t, v, fmt.Sprintf("/%d/kind", at), api.ErrKind)
		v.Items[at] = without(held, "route")
		checkFault(t, v, fmt.Sprintf("/%d/route", at), api.ErrMissing)
		v.Items[at] = with(held, "route", "x")
		checkFault(t, v, fmt.Sprintf("/%d/route", at), api.ErrRoute)
		v.Items[at] = held
	}
}

// TestOfEachMissingMember, alone and with others: all sets of members are missing from rules of each kind.
func TestOfEachMissingMember(t *testing.T) {
	for _, r := range each() {
		v := whole(r)
		must := mayNotMiss[rule.Kind(r.Kind)]
		for _, name := range order {
			if slices.Contains(must, name) {
				checkFault(t, list(without(v, name)), "/0/"+name, api.ErrMissing)
				continue
			}
			want := ruleBy(without(v, name))
			want, _, _ = rule.Canon(want)
			checkRules(t, list(without(v, name)), []api.Rule{want})
		}
		for set := range 1 << len(order) {
			checkOf(t, list(without(v, chosen(set)...)))
		}
	}
}

// chosen are the members whose bits are set.
func chosen(set int) []string {
	var names []string
	for i, name := range order {
		if set>>i&1 == 1 {
			names = append(names, name)
		}
	}
	return names
}

// TestOfEachMemberOfAnotherKind, alone and with others.
func TestOfEachMemberOfAnotherKind(t *testing.T) {
	for _, r := range each() {
		for _, name := range order {
			for _, wrong := range notFor(name) {
				checkFault(t, list(with(whole(r), name, wrong)), "/0/"+name, api.ErrKind)
				checkFault(t, list(with(objectBy(r), name, wrong)), "/0/"+name, api.ErrKind)
				checkFault(t, list(objectBy(limit("x")), with(whole(r), name, wrong)), "/1/"+name, api.ErrKind)
			}
		}
		for set := range 1 << len(order) {
			v := whole(r)
			for _, name := range chosen(set) {
				if isText(name) {
					v = with(v, name, 1)
				} else {
					v = with(v, name, "1")
				}
			}
			checkOf(t, list(v))
		}
	}
}

// TestOfTheFirstWrongMember: of any two that are missing, of another kind or not valid.
func TestOfTheFirstWrongMember(t *testing.T) {
	ways := []func(v api.Value, name string) api.Value{
		func(v api.Value, name string) api.Value { return without(v, name) },
		func(v api.Value, name string) api.Value { return with(v, name, nil) },
		func(v api.Value, name string) api.Value { return with(v, name, list()) },
		func(v api.Value, name string) api.Value {
			if isText(name) {
				return with(v, name, "\xff")
			}
			return with(v, name, -1)
		},
		func(v api.Value, name string) api.Value {
			if isText(name) {
				return with(v, name, "")
			}
			return with(v, name, 0)
		},
		func(v api.Value, name string) api.Value { return with(v, name+"/", 1) },
	}
	for _, r := range each() {
		for _, first := range order {
			for _, second := range order {
				for _, one := range ways {
					for _, other := range ways {
						checkItem(t, other(one(whole(r), first), second))
						checkOf(t, list(one(whole(r), first), other(objectBy(limit("b")), second)))
					}
				}
			}
		}
	}
}

// TestOfUnknownNames: each byte, names that are almost known, and all escapes of paths.
func TestOfUnknownNames(t *testing.T) {
	tried := []string{"", "Id", "ID", "id ", " id", "i", "idd", "\u0131d", "notes", "kinds", "prio", "rates", "maximum", "name", "path", "milli", "match", "rank", "limit", "window", "unit", "version", "rules",
		"a/b", "/", "//", "~", "~0", "~1", "~01", "/0", "0", "~/~", "\xff", "\x00", "id\x00", "\u4e16", strings.Repeat("x", 1000)}
	for b := range 256 {
		tried = append(tried, string([]byte{byte(b)}), "id"+string([]byte{byte(b)}))
	}
	for _, name := range order {
		tried = append(tried, name[1:], name[:len(name)-1], name+name, strings.ToUpper(name), "/"+name, name+"~1")
	}
	for _, name := range tried {
		path := "/0/" + strings.ReplaceAll(strings.ReplaceAll(name, "~", "~0"), "/", "~1")
		for i, r := range each() {
			checkFault(t, list(with(objectBy(r), name, i)), path, api.ErrUnknown)
			checkFault(t, list(with(object(), name, nil)), path, api.ErrUnknown)
			checkFault(t, list(with(with(object(name, list()), "id", 1), "other", 2)), path, api.ErrUnknown)
			v := with(objectBy(r), name, "x")
			v.Items = v.Items[:len(v.Items)-1] // a name without an item is one
			checkFault(t, list(v), path, api.ErrUnknown)
			checkOf(t, list(object("id", 1), v))
			checkOf(t, list(api.Value{}, v))
		}
	}
	checkFault(t, list(object("y", 1, "x", 2)), "/0/y", api.ErrUnknown)
	checkFault(t, list(object("id", 1, "y", 1, "note", 5, "x", 2)), "/0/y", api.ErrUnknown)
}

// TestOfUnknownKinds: all numbers may be missing, and are looked at if they are there.
func TestOfUnknownKinds(t *testing.T) {
	kinds := []string{"", "x", "Bucket", "BUCKET", "bucket ", " cap", "caps", "ca", "cap\x00", "breakers", "rate", "0", "1", "2", "3", "\xff", "bucketcap", strings.Repeat("cap", 1000)}
	for _, kind := range kinds {
		for _, r := range each() {
			bare := object("id", "a", "route", "/", "kind", kind)
			checkFault(t, list(bare), "/0/kind", api.ErrKind)
			checkFault(t, list(with(whole(r), "kind", kind)), "/0/kind", api.ErrKind)
			checkFault(t, list(with(objectBy(r), "kind", kind)), "/0/kind", api.ErrKind)
			checkFault(t, list(with(bare, "id", "")), "/0/id", api.ErrId)
			checkFault(t, list(with(bare, "priority", 1001)), "/0/priority", api.ErrRange)
			checkFault(t, list(without(bare, "route")), "/0/route", api.ErrMissing)
			checkFault(t, list(bare, object()), "/1/id", api.ErrMissing)
			for _, name := range order[5:] {
				checkFault(t, list(with(bare, name, 7)), "/0/kind", api.ErrKind)
				checkFault(t, list(with(bare, name, "7")), "/0/"+name, api.ErrKind)
				checkFault(t, list(with(with(bare, "probes", nil), name, "7")), "/0/"+name, api.ErrKind)
			}
		}
	}
}

// TestOfEachNumber: about the limits, in rules of each kind.
func TestOfEachNumber(t *testing.T) {
	tried := []int{math.MinInt, math.MinInt + 1, -1 << 32, -2, -1, 0, 1, 2, 3, 99, 100, 101, 999, 1000, 1001, 999999, 1000000, 1000001, 86399999, 86400000, 86400001, 1 << 31, 1 << 32, 1<<32 + 1, math.MaxInt - 1, math.MaxInt}
	for _, r := range each() {
		for _, name := range order {
			if isText(name) {
				continue
			}
			for _, n := range tried {
				checkItem(t, with(whole(r), name, n))
				checkItem(t, with(objectBy(r), name, n))
				for _, m := range tried {
					checkOf(t, list(with(with(whole(r), name, n), "priority", m)))
				}
			}
		}
	}
}

// TestOfEachText: of all bytes and at the limits.
func TestOfEachText(t *testing.T) {
	tried := []string{"", "a", "/", "/a", "bucket", "cap", "breaker", "\xff", "\xc3", "\u00e9", "/*", "/**", "/a/**/b"}
	for b := range 256 {
		tried = append(tried, string([]byte{byte(b)}), "a"+string([]byte{byte(b)}), "/a"+string([]byte{byte(b)}))
	}
	for _, size := range []int{63, 64, 65, 254, 255, 256, 257, 1000} {
		tried = append(tried, strings.Repeat("a", size), "/"+strings.Repeat("a", size-1))
	}
	for _, r := range each() {
		for _, name := range []string{"id", "note", "route", "kind"} {
			for _, s := range tried {
				checkItem(t, with(whole(r), name, s))
				checkItem(t, with(objectBy(r), name, s))
			}
		}
	}
}

// TestOfSetsThatAreNotValid: what consists of the right things is judged at last, also where a later item is wrong.
func TestOfSetsThatAreNotValid(t *testing.T) {
	right := objectBy(limit("z"))
	wrong := with(objectBy(limit("y")), "max", 0)
	checkFault(t, list(right, wrong), "/1/max", api.ErrRange)
	checkFault(t, list(wrong, right), "/0/max", api.ErrRange)
	checkFault(t, list(right, right), "/1/id", api.ErrTwice)
	checkFault(t, list(wrong, object()), "/1/id", api.ErrMissing)
	checkFault(t, list(wrong, text("")), "/1", api.ErrKind)
	checkFault(t, list(wrong, with(right, "x", 1)), "/1/x", api.ErrUnknown)
	checkFault(t, list(right, right, with(right, "wait", "")), "/2/wait", api.ErrKind)
	checkFault(t, list(with(right, "kind", "x"), without(right, "max")), "/1/max", api.ErrMissing)
	checkFault(t, list(with(right, "kind", "x"), wrong), "/0/kind", api.ErrKind)
	checkFault(t, list(wrong, with(right, "kind", "x")), "/0/max", api.ErrRange)
	for _, r := range each() {
		for _, name := range order[5:] {
			if _, ok := itemOf(objectBy(r), name); !ok {
				checkRules(t, list(with(objectBy(r), name, 0)), []api.Rule{r})
				checkFault(t, list(with(objectBy(r), name, 1)), "/0/"+name, api.ErrUnknown)
				checkFault(t, list(with(objectBy(r), name, -1)), "/0/"+name, api.ErrUnknown)
			}
		}
	}
}

// TestOfNamesThatAreThereTwice: the first one counts; of names without items, none.
func TestOfNamesThatAreThereTwice(t *testing.T) {
	for _, r := range each() {
		v := objectBy(r)
		for _, name := range v.Names {
			first, _ := itemOf(v, name)
			for _, other := range []api.Value{text("x"), number(-1), {}, first} {
				again := with(v, name, first)
				again.Names, again.Items = append(again.Names, name), append(again.Items, other)
				checkRules(t, list(again), []api.Rule{r})
				ahead := api.Value{Kind: 5, Names: append([]string{name}, v.Names...), Items: append([]api.Value{other}, v.Items...)}
				checkItem(t, ahead)
			}
		}
		for size := range v.Items {
			short := v
			short.Items = v.Items[:size]
			checkItem(t, short)
			short = v
			short.Names = v.Names[:size]
			checkItem(t, short)
			short.Items = append(slices.Clone(v.Items), text("more"), number(1))
			checkItem(t, short)
		}
		v.Items = append(v.Items, text("more"))
		checkRules(t, list(v), []api.Rule{r})
	}
}

// TestOfMembersInAnyOrder: neither that of the members nor that of the items counts.
func TestOfMembersInAnyOrder(t *testing.T) {
	r := rand.New(rand.NewSource(3))
	for range 3000 {
		l := setAtRandom(r, 1+r.Intn(6))
		form, _, _ := setthree.Canon(l)
		v := list()
		for _, one := range l {
			v.Items = append(v.Items, spelt(r, one))
		}
		checkRules(t, v, form)
	}
}

func TestOfAtRandom(t *testing.T) {
	r := rand.New(rand.NewSource(4))
	faults := map[api.Errno]int{}
	for range 60000 {
		v := list()
		for _, one := range setAtRandom(r, r.Intn(5)) {
			v.Items = append(v.Items, spelt(r, one))
		}
		for range r.Intn(4) {
			v = spoil(r, v)
		}
		checkOf(t, v)
		_, _, e := ofBy(v)
		faults[e]++
	}
	for _, e := range []api.Errno{api.OK, api.ErrRange, api.ErrText, api.ErrTwice, api.ErrId, api.ErrRoute, api.ErrKind, api.ErrMissing, api.ErrUnknown} {
		if faults[e] < 50 {
			t.Fatalf("error %d was tried %d times", e, faults[e])
		}
	}
}

// P25.5

// TestWhatIsPutIsRead: also when it has been written and read between, by this program and by another one.
func TestWhatIsPutIsRead(t *testing.T) {
	r := rand.New(rand.NewSource(5))
	for range 5000 {
		l := setAtRandom(r, r.Intn(8))
		form, _, _ := setthree.Canon(l)
		v, path, e := Put(l)
		if path != "" || e != api.OK {
			t.Fatalf("Put(%v) = %q, %d", l, path, e)
		}
		checkRules(t, v, form)
		again, _, _ := Put(form)
		if !tree.Same(v, again) {
			t.Fatalf("Put of the canonical form of %v is another value", l)
		}
		s, _ := render.Put(v)
		checkRules(t, from(t, s), form)
		checkMembers(t, s, form)
		pretty, _ := render.Pretty(v)
		checkRules(t, from(t, pretty), form)
	}
}

// checkMembers holds the text of a set against another reader of JSON.
func checkMembers(t *testing.T, s string, form []api.Rule) {
	t.Helper()
	var read []map[string]any
	if err := json.Unmarshal([]byte(s), &read); err != nil || len(read) != len(form) {
		t.Fatalf("%s: %v", s, err)
	}
	for i, r := range form {
		want := map[string]any{"id": r.Id, "route": r.Route, "priority": r.Priority, "kind": []string{"", "bucket", "cap", "breaker"}[r.Kind]}
		if r.Note != "" {
			want["note"] = r.Note
		}
		numbers := map[string]int{"rate": r.Rate, "per": r.Per, "burst": r.Burst, "cost": r.Cost, "max": r.Max, "fails": r.Fails, "wait": r.Wait, "probes": r.Probes}
		for name, n := range numbers {
			if n != 0 || name == "rate" && r.Kind == 1 { // of the canonical form, no other number of its kind is 0
				want[name] = n
			}
		}
		if fmt.Sprint(read[i]) != fmt.Sprint(floats(want)) {
			t.Fatalf("%v is written as %v", want, read[i])
		}
	}
}

// floats is m with its numbers as the library's reader has them.
func floats(m map[string]any) map[string]any {
	for name, a := range m {
		if n, ok := a.(int); ok {
			m[name] = float64(n)
		}
	}
	return m
}

// TestWhatIsReadIsReadAgain: of values with members in any order, and some that need not be there.
func TestWhatIsReadIsReadAgain(t *testing.T) {
	r := rand.New(rand.NewSource(6))
	for range 5000 {
		v := list()
		for _, one := range setAtRandom(r, r.Intn(6)) {
			v.Items = append(v.Items, spelt(r, one))
		}
		first, path, e := Of(v)
		if path != "" || e != api.OK || !setthree.Is(first) {
			t.Fatalf("Of(%s) = %v, %q, %d", told(v), first, path, e)
		}
		again, _, _ := Put(first)
		checkRules(t, again, first)
	}
	full, _, e := Put(many(4096))
	if e != api.OK {
		t.Fatalf("Put of 4096 rules: %d", e)
	}
	checkRules(t, full, many(4096))
}

// R1, R3 and R4

// checkEnds fails if a call takes too long.
func checkEnds(t *testing.T, what string, call func()) {
	t.Helper()
	done := make(chan bool)
	go func() {
		call()
		close(done)
	}()
	select {
	case <-done:
	case <-time.After(20 * time.Second):
		t.Fatalf("%s does not end", what)
	}
}

// deep is nested that many levels.
func deep(levels int, kind int) api.Value {
	v := api.Value{Kind: kind, Names: []string{"id"}}
	for range levels - 1 {
		v = api.Value{Kind: kind, Items: []api.Value{v}, Names: []string{"id"}}
	}
	return v
}

func TestDeepValuesEnd(t *testing.T) {
	checkEnds(t, "a call with deep values", func() {
		for _, kind := range []int{api.VList, api.VObject, api.VText, api.VNumber} {
			v := deep(65000, kind)
			checkMember(t, object("a", v), "a")
			checkKnown(t, v, []string{"id"}, "", true)
			checkOf(t, v)
			checkOf(t, list(v))
			checkOf(t, list(object("id", "a", "note", v)))
		}
	})
}

func TestGreatArgumentsEnd(t *testing.T) {
	const size = 1 << 20
	great := api.Value{Kind: 5, Items: make([]api.Value, size), Names: make([]string, size)}
	for i := range size {
		great.Names[i] = fmt.Sprint("n", i)
		great.Items[i] = number(i)
	}
	backwards := slices.Clone(great.Names)
	slices.Reverse(backwards)
	same := api.Value{Kind: 5, Items: make([]api.Value, size), Names: slices.Repeat([]string{"probes"}, size)}
	long := strings.Repeat("a", 1<<26)
	checkEnds(t, "a call with great arguments", func() {
		checkKnown(t, great, great.Names, "", true)
		checkKnown(t, great, backwards, "", true)
		checkKnown(t, great, backwards[1:], fmt.Sprint("n", size-1), false)
		checkNumber(t, great, fmt.Sprint("n", size-1), size-1, api.OK)
		checkNumber(t, object("a", great), "a", 0, api.ErrKind)
		checkText(t, great, "n", "", api.ErrMissing)
		checkFault(t, great, "", api.ErrKind)
		checkFault(t, list(great), "/0/n0", api.ErrUnknown)
		checkFault(t, list(same), "/0/id", api.ErrMissing)
		checkText(t, object(long, long), long, long, api.OK)
		checkFault(t, list(object("id", long, "route", long, "note", long, "kind", long)), "/0/id", api.ErrId)
		checkFault(t, list(object(long, 1)), "/0/"+long, api.ErrUnknown)
		for range 20 {
			checkFault(t, list(slices.Repeat([]api.Value{objectBy(bucket("a"))}, 4096)...), "/1/id", api.ErrTwice)
		}
	})
}

// inside tells whether s lies in the memory of all.
func inside(s, all string) bool {
	at, from := uintptr(unsafe.Pointer(unsafe.StringData(s))), uintptr(unsafe.Pointer(unsafe.StringData(all)))
	return s != "" && at >= from && at < from+uintptr(len(all))
}

// TestResultsAreNewMemory: no string in a result is one of an argument.
func TestResultsAreNewMemory(t *testing.T) {
	all := "abc a note /x/y unknown bucket"
	v := object(all[:1], all[4:10], all[16:23], 1)
	if s, e := Text(v, "a"); s != "a note" || e != api.OK || inside(s, all) {
		t.Fatalf("Text: %q, %d", s, e)
	}
	if s, ok := Known(v, []string{"a"}); s != "unknown" || ok || inside(s, all) {
		t.Fatalf("Known: %q, %t", s, ok)
	}
	r := api.Rule{Id: all[:3], Note: all[4:10], Route: all[11:15], Kind: 2, Max: 1}
	put, _, _ := Put([]api.Rule{r})
	for _, item := range put.Items[0].Items {
		if inside(item.S, all) {
			t.Fatalf("Put shares %q", item.S)
		}
	}
	object := with(with(with(put.Items[0], "id", all[:3]), "note", all[4:10]), "route", all[11:15])
	l, _, e := Of(list(object))
	if e != api.OK || l[0] != r || inside(l[0].Id, all) || inside(l[0].Note, all) || inside(l[0].Route, all) {
		t.Fatalf("Of: %v, %d", l, e)
	}
	if _, path, e := Of(list(v)); path != "/0/a" || e != api.ErrUnknown || inside(path, all) {
		t.Fatalf("Of: %q, %d", path, e)
	}
}

// TestListsOfAResultAreApart: what is changed in one of them, or put behind it, is not seen in another one, nor in the next result.
func TestListsOfAResultAreApart(t *testing.T) {
	l := append(each()[:1], limit("b"), breaker("c"), bucket("d"))
	want, _, _ := putBy(l)
	got, _, _ := Put(l)
	for i := range got.Items {
		_ = append(got.Items[i].Names, "behind")
		_ = append(got.Items[i].Items, text("behind"))
		if !tree.Same(got, want) {
			t.Fatalf("what is behind the lists of item %d is seen: %s", i, told(got))
		}
		clear(got.Items[i].Names)
		clear(got.Items[i].Items)
		for j := i + 1; j < len(got.Items); j++ {
			if !tree.Same(got.Items[j], want.Items[j]) {
				t.Fatalf("items %d and %d share memory", i, j)
			}
		}
		got.Items[i] = want.Items[i]
	}
	if again, _, _ := Put(l); !tree.Same(again, want) {
		t.Fatalf("the next result is %s", told(again))
	}
	first, _, _ := Of(want)
	clear(first)
	checkRules(t, want, l)
}

// copied is v in other memory, with room behind each list in which something is.
func copied(v api.Value) api.Value {
	items := make([]api.Value, 0, len(v.Items)+1)
	for _, item := range v.Items {
		items = append(items, copied(item))
	}
	names := append(make([]string, 0, len(v.Names)+1), v.Names...)
	_ = append(items, text("behind"))
	_ = append(names, "behind")
	v.Items, v.Names = items, names
	return v
}

// unchanged tells whether v, which copied made of want, is still so.
func unchanged(v, want api.Value) bool {
	if v.Kind != want.Kind || v.N != want.N || v.S != want.S || len(v.Items) != len(want.Items) || !slices.Equal(v.Names, want.Names) {
		return false
	}
	if v.Items[:len(v.Items)+1][len(v.Items)].S != "behind" || v.Names[:len(v.Names)+1][len(v.Names)] != "behind" {
		return false
	}
	for i := range v.Items {
		if !unchanged(v.Items[i], want.Items[i]) {
			return false
		}
	}
	return true
}

func TestArgumentsStayAsTheyWere(t *testing.T) {
	r := rand.New(rand.NewSource(7))
	for range 5000 {
		rules := setAtRandom(r, 1+r.Intn(5))
		want := list()
		for _, one := range rules {
			want.Items = append(want.Items, spelt(r, one))
		}
		for range r.Intn(3) {
			want = spoil(r, want)
		}
		v := copied(want)
		names := append(slices.Clone(order), "behind")[:len(order)]
		l, _, _ := Of(v)
		for i := range l {
			l[i] = api.Rule{Id: "changed"}
		}
		for _, item := range v.Items {
			Text(item, "id")
			Number(item, "rate")
			Known(item, names)
		}
		if !unchanged(v, want) {
			t.Fatalf("%s has become %s", told(want), told(v))
		}
		if !slices.Equal(names[:len(names)+1], append(slices.Clone(order), "behind")) {
			t.Fatalf("the names have become %q", names)
		}
		room := append(slices.Clone(rules), api.Rule{Id: "behind"})
		put, _, _ := Put(room[:len(rules)])
		clear(put.Items)
		if !slices.Equal(room[:len(rules)], rules) || room[len(rules)].Id != "behind" {
			t.Fatalf("%v has become %v", rules, room)
		}
	}
}

// TestStringsStayAsTheyWere: though the bytes of the argument become others.
func TestStringsStayAsTheyWere(t *testing.T) {
	bytes := []byte("abc")
	s := unsafe.String(&bytes[0], len(bytes))
	v := object(s, s)
	text, _ := Text(v, "abc")
	unknown, _ := Known(v, nil)
	put, _, _ := Put([]api.Rule{limit(s)})
	rules, _, _ := Of(list(object("id", s, "note", s, "route", "/", "kind", "cap", "max", 1)))
	_, path, _ := Of(list(object(s, 1)))
	clear(bytes)
	if text != "abc" || unknown != "abc" || path != "/0/abc" || put.Items[0].Items[0].S != "abc" || rules[0].Id != "abc" || rules[0].Note != "abc" {
		t.Fatalf("%q, %q, %q, %s, %v", text, unknown, path, told(put), rules)
	}
}

// TestSameAnswerEachTime: whatever is called in between, also at the same time.
func TestSameAnswerEachTime(t *testing.T) {
	shared := setAtRandom(rand.New(rand.NewSource(8)), 50)
	sharedForm, _, _ := setthree.Canon(shared)
	sharedValue, _, _ := putBy(shared)
	done := make(chan bool)
	for worker := range 8 {
		go func() {
			defer func() { done <- true }()
			r := rand.New(rand.NewSource(int64(worker)))
			for range 800 {
				v := list()
				for _, one := range setAtRandom(r, r.Intn(4)) {
					v.Items = append(v.Items, spelt(r, one))
				}
				if r.Intn(2) == 0 {
					v = spoil(r, v)
				}
				want, path, e := ofBy(v)
				if got, at, wrong := Of(v); !slices.Equal(got, want) || at != path || wrong != e {
					t.Errorf("Of(%s) = %v, %q, %d, want %v, %q, %d", told(v), got, at, wrong, want, path, e)
					return
				}
				if got, _, e := Put(shared); e != api.OK || !tree.Same(got, sharedValue) {
					t.Errorf("Put = %s, %d", told(got), e)
					return
				}
				if got, _, e := Of(sharedValue); e != api.OK || !slices.Equal(got, sharedForm) {
					t.Errorf("Of = %v, %d", got, e)
					return
				}
			}
		}()
	}
	for range 8 {
		<-done
	}
}
