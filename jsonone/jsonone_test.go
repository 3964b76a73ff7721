package jsonone

import (
	"encoding/json"
	"fmt"
	"math"
	"math/big"
	"math/rand"
	"slices"
	"strings"
	"testing"
	"time"
	"unsafe"

	"stoplog/api"
	"stoplog/parse"
	"stoplog/pointer"
	"stoplog/render"
	"stoplog/setone"
	"stoplog/tree"
)

// What the functions must answer, by the chapter's own words.

// order is that of the members; all of them must be there.
var order = []string{"name", "path", "milli", "burst"}

var negative = math.Copysign(0, -1)

// milliBy is the integer nearest to the exact product of 1000 and x, which is from 0 to 1000.
func milliBy(x float64) int {
	product := new(big.Rat).Mul(new(big.Rat).SetFloat64(x), big.NewRat(1000, 1))
	whole := new(big.Int).Quo(product.Num(), product.Denom())
	rest := new(big.Rat).Sub(product, new(big.Rat).SetInt(whole))
	n := int(whole.Int64())
	if half := rest.Cmp(big.NewRat(1, 2)); half > 0 || half == 0 && n%2 == 1 {
		n++
	}
	return n
}

// thousandthBy is the nearest float, as big.Rat tells it.
func thousandthBy(n int64) float64 {
	x, _ := big.NewRat(n, 1000).Float64()
	return x
}

func itemOf(v api.Value, name string) (api.Value, bool) {
	for i, n := range v.Names {
		if n == name {
			if i >= len(v.Items) {
				break
			}
			return v.Items[i], true
		}
	}
	return api.Value{}, false
}

// objectBy is the object of a rule that is canonical.
func objectBy(r api.RuleOne) api.Value {
	return object("name", r.Name, "path", r.Path, "milli", milliBy(r.PerSecond), "burst", r.Burst)
}

func putBy(l []api.RuleOne) (api.Value, string, api.Errno) {
	form, path, e := setone.Canon(l)
	if e != 0 {
		return api.Value{}, path, e
	}
	return written(form), "", 0
}

// written is the list of a set that is canonical.
func written(form []api.RuleOne) api.Value {
	v := list()
	for _, r := range form {
		v.Items = append(v.Items, objectBy(r))
	}
	return v
}

// faultBy is the path in the item and the error of the first thing that is wrong with what it consists of.
func faultBy(item api.Value) (string, api.Errno) {
	if item.Kind != 5 {
		return "", 15
	}
	for _, name := range item.Names {
		if !slices.Contains(order, name) {
			return pointer.Put([]string{name}), 17
		}
	}
	for _, name := range order {
		member, ok := itemOf(item, name)
		switch {
		case !ok:
			return "/" + name, 16
		case member.Kind != map[string]int{"name": 3, "path": 3, "milli": 2, "burst": 2}[name]:
			return "/" + name, 15
		case name == "milli" && (member.N <= -1 || 1000001 <= member.N):
			return "/milli", 2
		}
	}
	return "", 0
}

// ruleBy is the rule of an item that consists of what it should.
func ruleBy(item api.Value) api.RuleOne {
	member := func(name string) api.Value { m, _ := itemOf(item, name); return m }
	return api.RuleOne{
		Name: member("name").S, Path: member("path").S,
		PerSecond: thousandthBy(member("milli").N), Burst: int(member("burst").N),
	}
}

func ofBy(v api.Value) ([]api.RuleOne, string, api.Errno) {
	if v.Kind != 4 {
		return nil, "", 15
	}
	if len(v.Items) >= 4097 {
		return nil, "", 12
	}
	var l []api.RuleOne
	for i, item := range v.Items {
		if path, e := faultBy(item); e != 0 {
			return nil, fmt.Sprintf("/%d%s", i, path), e
		}
		l = append(l, ruleBy(item))
	}
	return setone.Canon(l)
}

// Checks of one call each.

// same compares the bits of the rates, so that 0 and -0 differ.
func same(a, b []api.RuleOne) bool {
	return slices.EqualFunc(a, b, func(a, b api.RuleOne) bool {
		return a.Name == b.Name && a.Path == b.Path && a.Burst == b.Burst && math.Float64bits(a.PerSecond) == math.Float64bits(b.PerSecond)
	})
}

// checkPut holds Put against the oracle, and what it answers against P26.3.
func checkPut(t *testing.T, l ...api.RuleOne) {
	t.Helper()
	want, path, e := putBy(l)
	got, at, wrong := Put(l)
	if !tree.Same(got, want) || at != path || wrong != e {
		t.Fatalf("Put(%s) = %s, %q, %d, want %s, %q, %d", rules(l), told(got), at, wrong, told(want), path, e)
	}
	if e != 0 {
		return
	}
	if !tree.Right(got) {
		t.Fatalf("Put(%s) = %s is not valid", rules(l), told(got))
	}
	form, _, _ := setone.Canon(l)
	checkRules(t, got, form)
}

// checkPutFault sees that l is not a set.
func checkPutFault(t *testing.T, l []api.RuleOne, path string, wrong api.Errno) {
	t.Helper()
	if v, at, e := Put(l); !tree.Same(v, api.Value{}) || at != path || e != wrong {
		t.Fatalf("Put(%s) = %s, %q, %d, want %q, %d", rules(l), told(v), at, e, path, wrong)
	}
}

// checkRules sees that v is read as that set.
func checkRules(t *testing.T, v api.Value, want []api.RuleOne) {
	t.Helper()
	got, path, e := Of(v)
	if !same(got, want) || path != "" || e != 0 {
		t.Fatalf("Of(%s) = %s, %q, %d, want %s", told(v), rules(got), path, e, rules(want))
	}
}

// checkFault sees that v describes no set.
func checkFault(t *testing.T, v api.Value, path string, wrong api.Errno) {
	t.Helper()
	if got, at, e := Of(v); len(got) != 0 || at != path || e != wrong {
		t.Fatalf("Of(%s) = %s, %q, %d, want %q, %d", told(v), rules(got), at, e, path, wrong)
	}
}

// checkOf holds Of against the oracle, and what was read against P26.3.
func checkOf(t *testing.T, v api.Value) {
	t.Helper()
	want, path, e := ofBy(v)
	if e != 0 {
		checkFault(t, v, path, e)
		return
	}
	checkRules(t, v, want)
	again, path, e := Put(want)
	if path != "" || e != 0 {
		t.Fatalf("Put(%s) = %s, %q, %d", rules(want), told(again), path, e)
	}
	checkRules(t, again, want)
}

// checkItem is checkOf of a list of that item, alone and behind another one.
func checkItem(t *testing.T, item api.Value) {
	t.Helper()
	checkOf(t, list(item))
	checkOf(t, list(objectBy(right("first")), item))
}

// told is a value, or its beginning if it is long.
func told(v api.Value) string {
	if len(v.Items) > 20 || len(v.Names) > 20 {
		return fmt.Sprintf("a value of kind %d, %d items and %d names", v.Kind, len(v.Items), len(v.Names))
	}
	return fmt.Sprintf("%.2000s", fmt.Sprintf("%+v", v))
}

// rules is a set, or its beginning if it is long.
func rules(l []api.RuleOne) string {
	return fmt.Sprintf("%d rules %.2000s", len(l), fmt.Sprintf("%+v", l[:min(len(l), 10)]))
}

// What is tried.

func text(s string) api.Value               { return api.Value{Kind: 3, S: s} }
func number[N ~int | ~int64](n N) api.Value { return api.Value{Kind: 2, N: int64(n)} }
func list(items ...api.Value) api.Value     { return api.Value{Kind: 4, Items: items} }

// object has the names and items in l, one behind the other.
func object(l ...any) api.Value {
	v := api.Value{Kind: 5}
	for i := 0; i < len(l); i += 2 {
		v.Names = append(v.Names, l[i].(string))
		v.Items = append(v.Items, item(l[i+1]))
	}
	return v
}

func item(a any) api.Value {
	switch x := a.(type) {
	case string:
		return text(x)
	case int:
		return number(x)
	case int64:
		return number(x)
	case api.Value:
		return x
	}
	return api.Value{}
}

// from is the value that a text of JSON describes.
func from(t *testing.T, s string) api.Value {
	t.Helper()
	v, at, e := parse.Parse(s)
	if e != 0 {
		t.Fatalf("%q is no JSON: %d at %d", s, e, at)
	}
	return v
}

// with is v with another item under the name, at the end if it has none; without is v without those names.
func with(v api.Value, name string, a any) api.Value {
	v.Names, v.Items = slices.Clone(v.Names), slices.Clone(v.Items)
	if at := slices.Index(v.Names, name); at >= 0 && at < len(v.Items) {
		v.Items[at] = item(a)
		return v
	}
	v.Names, v.Items = append(v.Names, name), append(v.Items, item(a))
	return v
}

func without(v api.Value, names ...string) api.Value {
	left := api.Value{Kind: v.Kind}
	for i, name := range v.Names {
		if !slices.Contains(names, name) && i < len(v.Items) {
			left.Names, left.Items = append(left.Names, name), append(left.Items, v.Items[i])
		}
	}
	return left
}

// right is canonical, with that name.
func right(name string) api.RuleOne {
	return api.RuleOne{Name: name, Path: "/a/b", PerSecond: 1.5, Burst: 5}
}

// rate is right("a") with that rate, path with that path, and burst with that burst.
func rate(x float64) api.RuleOne {
	return api.RuleOne{Name: "a", Path: "/a/b", PerSecond: x, Burst: 5}
}

func path(s string) api.RuleOne {
	return api.RuleOne{Name: "a", Path: s, PerSecond: 1.5, Burst: 5}
}

func burst(n int) api.RuleOne {
	return api.RuleOne{Name: "a", Path: "/a/b", PerSecond: 1.5, Burst: n}
}

// many are so many rules, in their canonical form.
func many(size int) []api.RuleOne {
	l := make([]api.RuleOne, size)
	for i := range l {
		l[i] = api.RuleOne{Name: fmt.Sprintf("r%07d", i), Path: "/a", PerSecond: thousandthBy(int64(i * 7)), Burst: 1 + i}
	}
	return l
}

// isText tells whether the member of that name is a string.
func isText(name string) bool {
	return name == "name" || name == "path"
}

// wrongKinds are items that are neither text nor number, with whatever other fields.
func wrongKinds() []api.Value {
	var l []api.Value
	for _, kind := range []int{0, 1, 4, 5, 6, 7, -1, -3, 34, 35, 1 << 33, math.MinInt, math.MaxInt} {
		l = append(l, api.Value{Kind: kind}, api.Value{Kind: kind, N: 1, S: "a"})
		l = append(l, api.Value{Kind: kind, S: "/", Items: []api.Value{text("a"), number(1)}, Names: []string{"name", "milli"}})
	}
	return l
}

// notFor are items that a member of that name may not be.
func notFor(name string) []api.Value {
	if isText(name) {
		return append(wrongKinds(), number(0), number(1), api.Value{Kind: 2, N: 1, S: "a"})
	}
	return append(wrongKinds(), text(""), text("1"), api.Value{Kind: 3, N: 1})
}

// rateAtRandom is one that is permitted, canonical or not.
func rateAtRandom(r *rand.Rand) float64 {
	switch r.Intn(6) {
	case 0:
		return []float64{0, negative, 1, 1000, 0.001, 999.999, 5e-324, 0.0005, 0.0015, 0.0025}[r.Intn(10)]
	case 1:
		return thousandthBy(r.Int63n(1000001))
	case 2:
		return r.Float64() / 100
	case 3:
		return float64(r.Intn(16001)) / 16
	}
	return r.Float64() * 1000
}

// setAtRandom is valid, canonical or not.
func setAtRandom(r *rand.Rand, size int) []api.RuleOne {
	var l []api.RuleOne
	for _, n := range r.Perm(3*size + 1)[:size] {
		l = append(l, api.RuleOne{
			Name:      fmt.Sprintf("%s%d", []string{"a", "b.", "z_-"}[n%3], n),
			Path:      []string{"/", "/a", "/a/b", "/a%2f/b~", strings.Repeat("/a", 31), "/" + strings.Repeat("x", 251)}[r.Intn(6)],
			PerSecond: rateAtRandom(r),
			Burst:     []int{1, 2, 1 + r.Intn(1000000), 999999, 1000000}[r.Intn(5)],
		})
	}
	return l
}

// spelt is the list of the rules in l as they stand there, with members in any order.
func spelt(r *rand.Rand, l []api.RuleOne) api.Value {
	v := list()
	for _, one := range l {
		v.Items = append(v.Items, shuffled(r, objectBy(one)))
	}
	return v
}

func shuffled(r *rand.Rand, v api.Value) api.Value {
	v.Names, v.Items = slices.Clone(v.Names), slices.Clone(v.Items)
	r.Shuffle(min(len(v.Names), len(v.Items)), func(i, j int) {
		v.Names[i], v.Names[j] = v.Names[j], v.Names[i]
		v.Items[i], v.Items[j] = v.Items[j], v.Items[i]
	})
	return v
}

// spoil makes one thing of the list another one, which may be right too.
func spoil(r *rand.Rand, v api.Value) api.Value {
	v.Items = slices.Clone(v.Items)
	if len(v.Items) == 0 {
		return v
	}
	at := r.Intn(len(v.Items))
	one := v.Items[at]
	name := order[r.Intn(len(order))]
	switch r.Intn(8) {
	case 0:
		one = without(one, name)
	case 1:
		l := notFor(name)
		one = with(one, name, l[r.Intn(len(l))])
	case 2:
		one = with(one, []string{"", "x", "a/b", "~", "Name", "name ", "/", "perSecond"}[r.Intn(8)], r.Intn(3))
	case 3:
		one = with(one, []string{"name", "path"}[r.Intn(2)], []string{"", "a", "/x", "\xff", "/*", "A"}[r.Intn(6)])
	case 4:
		one = with(one, []string{"milli", "burst"}[r.Intn(2)], []int{0, 1, -1, 1000, 1000000, 1000001, math.MaxInt, math.MinInt}[r.Intn(8)])
	case 5:
		one.Kind = r.Intn(8) - 1
	case 6:
		one.Items = one.Items[:r.Intn(len(one.Items)+1)]
	case 7:
		one = shuffled(r, with(one, "name", []string{"a1", "b.1", "A", ""}[r.Intn(4)]))
	}
	v.Items[at] = one
	return v
}

// P26.1

func TestPutExamples(t *testing.T) {
	check := func(want api.Value, l ...api.RuleOne) {
		t.Helper()
		if got, path, e := Put(l); !tree.Same(got, want) || path != "" || e != api.OK {
			t.Fatalf("Put(%s) = %s, %q, %d, want %s", rules(l), told(got), path, e, told(want))
		}
		checkPut(t, l...)
	}
	check(list())
	check(from(t, `[{"name":"a","path":"/a/b","milli":1500,"burst":5}]`), right("a"))
	check(from(t, `[{"name":"a","path":"/a/b","milli":0,"burst":5}]`), rate(negative))
	check(from(t, `[{"name":"a","path":"/a/b","milli":1000000,"burst":5}]`), rate(1000))
	check(from(t, `[{"name":"a","path":"/","milli":1500,"burst":5}]`), path("/"))
	check(from(t, `[{"name":"a","path":"/a/b","milli":1500,"burst":1000000}]`), burst(1000000))
	check(from(t, `[{"name":"a","path":"/a/b","milli":1500,"burst":5},{"name":"b","path":"/a/b","milli":1500,"burst":5},{"name":"b-","path":"/a/b","milli":1500,"burst":5}]`), right("b"), right("b-"), right("a"))
	if got, path, e := Put([]api.RuleOne{}); !tree.Same(got, list()) || path != "" || e != api.OK {
		t.Fatalf("Put of an empty list = %s, %q, %d", told(got), path, e)
	}
}

// TestPutOfEachThousandth: of a rate that is one, and of its neighbours.
func TestPutOfEachThousandth(t *testing.T) {
	for n := 0; n <= 1000000; {
		l := many(min(4096, 1000001-n))
		for i := range l {
			l[i].PerSecond = float64(n+i) / 1000
			if i%3 == 1 {
				l[i].PerSecond = math.Nextafter(l[i].PerSecond, math.Inf(1-i%2*2))
			}
		}
		v, _, e := Put(l)
		if e != api.OK || len(v.Items) != len(l) {
			t.Fatalf("Put of %d thousandths and more: %d items, %d", n, len(v.Items), e)
		}
		for _, item := range v.Items {
			if milli, _ := itemOf(item, "milli"); !tree.Same(milli, number(n)) {
				t.Fatalf("of %d thousandths, milli is %s", n, told(milli))
			}
			n++
		}
	}
}

// TestPutOfRates: halves of a thousandth, numbers next to them, and those of all classes.
func TestPutOfRates(t *testing.T) {
	l := []float64{negative, 0, 5e-324, 1e-300, 0.0001, 0.001, 1.0 / 3, 0.1, 0.1 + 0.2, 1.5, 10, 33.3333, 999.999, 999.9994, 999.9996, 1000, 1000.0004}
	for k := 1; k <= 64; k += 2 {
		l = append(l, float64(k)*0.0625, float64(k)/2000, float64(k*k)*0.3125)
	}
	for _, x := range slices.Clone(l) {
		l = append(l, math.Nextafter(x, math.Inf(1)), math.Nextafter(x, 0))
	}
	for _, x := range l {
		checkPut(t, rate(x))
		checkPut(t, right("z"), rate(x), right("b"))
	}
	for x, n := range map[float64]int{0.0625: 62, 0.1875: 188, 0.3125: 312, 0.0005: 1, 0.00049: 0, 1.5: 1500, 0.5: 500} {
		v, _, _ := Put([]api.RuleOne{rate(x)})
		if milli, _ := itemOf(v.Items[0], "milli"); !tree.Same(milli, number(n)) {
			t.Fatalf("of %v, milli is %s, want %d", x, told(milli), n)
		}
	}
}

// TestPutOfEachField: each byte, each length, and numbers about their limits.
func TestPutOfEachField(t *testing.T) {
	for b := range 256 {
		checkPut(t, right("a"+string([]byte{byte(b)})))
		checkPut(t, path("/"+string([]byte{byte(b)})))
	}
	for size := range 70 {
		checkPut(t, right(strings.Repeat("a", size)))
		checkPut(t, path(strings.Repeat("/a", size)))
	}
	for size := 245; size < 260; size++ {
		checkPut(t, path("/"+strings.Repeat("x", size)))
	}
	for _, n := range []int{math.MinInt, -1 << 32, -1, 0, 1, 2, 9, 10, 999999, 1000000, 1000001, 1 << 31, 1<<32 + 1, math.MaxInt} {
		checkPut(t, burst(n))
	}
	for n := 1; n <= 1000000; n += 1 + n/10 {
		checkPut(t, burst(n))
	}
}

// TestPutOfWrongSets: the first thing that is wrong is told, by the names of the fields and not of the members, and nothing else.
func TestPutOfWrongSets(t *testing.T) {
	faults := []struct {
		r    api.RuleOne
		path string
		e    api.Errno
	}{
		{api.RuleOne{}, "/name", api.ErrId},
		{right("A"), "/name", api.ErrId},
		{right(strings.Repeat("a", 65)), "/name", api.ErrId},
		{path(""), "/path", api.ErrRoute},
		{path("x"), "/path", api.ErrRoute},
		{path("/**"), "/path", api.ErrRoute},
		{path(strings.Repeat("/a", 32)), "/path", api.ErrRoute},
		{path("/" + strings.Repeat("x", 252)), "/path", api.ErrRoute},
		{rate(math.NaN()), "/perSecond", api.ErrReal},
		{rate(math.Inf(1)), "/perSecond", api.ErrReal},
		{rate(math.Inf(-1)), "/perSecond", api.ErrReal},
		{rate(-0.001), "/perSecond", api.ErrReal},
		{rate(-5e-324), "/perSecond", api.ErrReal},
		{rate(1000.001), "/perSecond", api.ErrOver},
		{rate(1e300), "/perSecond", api.ErrOver},
		{burst(0), "/burst", api.ErrRange},
		{burst(-1), "/burst", api.ErrRange},
		{burst(1000001), "/burst", api.ErrRange},
	}
	for _, one := range faults {
		checkPutFault(t, []api.RuleOne{one.r}, "/0"+one.path, one.e)
		checkPutFault(t, []api.RuleOne{right("z"), right("y"), one.r, right("z")}, "/2"+one.path, one.e)
		for _, other := range faults {
			checkPutFault(t, []api.RuleOne{right("z"), one.r, other.r}, "/1"+one.path, one.e)
		}
	}
	checkPutFault(t, []api.RuleOne{right("b"), right("a"), right("b")}, "/2/name", api.ErrTwice)
	checkPutFault(t, make([]api.RuleOne, 4097), "", api.ErrMany)
	checkPutFault(t, many(4097), "", api.ErrMany)
	checkPutFault(t, many(1<<20), "", api.ErrMany)
	checkPutFault(t, append(many(4095), many(1)...), "/4095/name", api.ErrTwice)
	checkPut(t, many(4096)...)
	checkPut(t, many(4095)...)
}

func TestPutAtRandom(t *testing.T) {
	r := rand.New(rand.NewSource(1))
	for range 8000 {
		l := setAtRandom(r, r.Intn(8))
		checkPut(t, l...)
		if len(l) > 1 {
			l[r.Intn(len(l))].Name = l[r.Intn(len(l))].Name
			checkPut(t, l...)
			l[r.Intn(len(l))] = api.RuleOne{Name: "a", Path: []string{"/", "x"}[r.Intn(2)], PerSecond: float64(r.Intn(3) - 1), Burst: r.Intn(2)}
			checkPut(t, l...)
		}
	}
	for range 20 {
		checkPut(t, setAtRandom(r, r.Intn(1000))...)
	}
}

// P26.2

func TestOfExamples(t *testing.T) {
	fault := func(s, path string, e api.Errno) {
		t.Helper()
		checkFault(t, from(t, s), path, e)
		checkOf(t, from(t, s))
	}
	fault(`[{"name":"a","path":"/","milli":-1,"burst":1}]`, "/0/milli", api.ErrRange)
	fault(`[{"name":"a","path":"/","milli":1000001,"burst":1}]`, "/0/milli", api.ErrRange)
	fault(`[{"name":"a","path":"/","milli":-1}]`, "/0/milli", api.ErrRange)
	fault(`[{"path":"/","milli":1,"burst":1}]`, "/0/name", api.ErrMissing)
	fault(`[{"name":"a","milli":1,"burst":1}]`, "/0/path", api.ErrMissing)
	fault(`[{"name":"a","path":"/","burst":1}]`, "/0/milli", api.ErrMissing)
	fault(`[{"name":"a","path":"/","milli":1}]`, "/0/burst", api.ErrMissing)
	fault(`[{"name":1,"path":2,"milli":"","burst":""}]`, "/0/name", api.ErrKind)
	fault(`[{"name":"","path":2,"milli":"","burst":""}]`, "/0/path", api.ErrKind)
	fault(`[{"name":"","path":"","milli":"","burst":""}]`, "/0/milli", api.ErrKind)
	fault(`[{"name":"","path":"","milli":0,"burst":""}]`, "/0/burst", api.ErrKind)
	fault(`[{"name":"","path":"","milli":0,"burst":0}]`, "/0/name", api.ErrId)
	fault(`[{"name":"a","path":"","milli":0,"burst":0}]`, "/0/path", api.ErrRoute)
	fault(`[{"name":"a","path":"/","milli":0,"burst":0}]`, "/0/burst", api.ErrRange)
	fault(`[{}]`, "/0/name", api.ErrMissing)
	fault(`[{"a/b":1}]`, "/0/a~1b", api.ErrUnknown)
	fault(`[{"name":1,"~":1,"a/b":1}]`, "/0/~0", api.ErrUnknown)
	fault(`[{"":1}]`, "/0/", api.ErrUnknown)
	fault(`[{"perSecond":1}]`, "/0/perSecond", api.ErrUnknown)
	fault(`[1]`, "/0", api.ErrKind)
	fault(`[[]]`, "/0", api.ErrKind)
	for _, s := range []string{`null`, `true`, `0`, `"[]"`, `{}`, `{"name":"a","path":"/","milli":1,"burst":1}`} {
		fault(s, "", api.ErrKind)
	}
	fault(`[{"name":"b","path":"/","milli":1,"burst":1},{"name":"a","path":"/","milli":1,"burst":1},{"name":"b","path":"/","milli":1,"burst":1}]`, "/2/name", api.ErrTwice)
	checkRules(t, from(t, `[]`), nil)
	checkRules(t, from(t, `[{"name":"a","path":"/","milli":1500,"burst":1}]`), []api.RuleOne{{Name: "a", Path: "/", PerSecond: 1.5, Burst: 1}})
	checkRules(t, from(t, `[{"burst":1,"milli":1,"path":"/","name":"a"}]`), []api.RuleOne{{Name: "a", Path: "/", PerSecond: 0.001, Burst: 1}})
	checkRules(t, from(t, `[{"name":"b","path":"/x","milli":0,"burst":1000000},{"name":"a","path":"/","milli":1000000,"burst":1}]`), []api.RuleOne{
		{Name: "a", Path: "/", PerSecond: 1000, Burst: 1},
		{Name: "b", Path: "/x", PerSecond: 0, Burst: 1000000},
	})
}

// TestOfEachKindOfValue: only a list is one, whatever other fields there are; and only an object is an item.
func TestOfEachKindOfValue(t *testing.T) {
	for _, kind := range []int{math.MinInt, -1, 0, 1, 2, 3, 4, 5, 6, 7, 8, 36, 37, 1<<32 + 4, 1<<32 + 5, math.MaxInt} {
		v := api.Value{Kind: kind, N: 4, S: "[]", Items: []api.Value{objectBy(right("a"))}, Names: []string{"name"}}
		item := objectBy(right("a"))
		item.Kind, item.N, item.S = kind, 5, "{}"
		if kind == api.VList {
			checkRules(t, v, []api.RuleOne{right("a")})
		} else {
			checkFault(t, v, "", api.ErrKind)
			v.Items = make([]api.Value, 5000)
			checkFault(t, v, "", api.ErrKind)
		}
		if kind == api.VObject {
			checkRules(t, list(item), []api.RuleOne{right("a")})
			continue
		}
		for at := range 12 {
			v := written(many(12))
			v.Items[at] = item
			checkFault(t, v, fmt.Sprint("/", at), api.ErrKind)
		}
	}
}

// TestOfManyItems: that there are too many counts ahead of what is wrong with one of them.
func TestOfManyItems(t *testing.T) {
	for size := 4092; size <= 4100; size++ {
		v := written(many(size))
		if size <= 4096 {
			checkRules(t, v, many(size))
		} else {
			checkFault(t, v, "", api.ErrMany)
		}
		for _, at := range []int{0, 1, 9, 10, 99, 100, 999, 1000, 2048, size - 2, size - 1} {
			held := v.Items[at]
			for _, wrong := range []api.Value{{}, object(), object("x", 1), with(held, "name", "A"), with(held, "milli", -1)} {
				v.Items[at] = wrong
				if size <= 4096 {
					checkFaultAt(t, v, at)
				} else {
					checkFault(t, v, "", api.ErrMany)
				}
			}
			v.Items[at] = held
		}
	}
	for _, size := range []int{4097, 5000, 8192, 65536, 65537, 1 << 20} {
		checkFault(t, list(make([]api.Value, size)...), "", api.ErrMany)
	}
	checkFault(t, list(make([]api.Value, 4096)...), "/0", api.ErrKind)
}

// checkFaultAt sees that the item at that place is wrong, in the way that the oracle finds.
func checkFaultAt(t *testing.T, v api.Value, at int) {
	t.Helper()
	_, path, e := ofBy(v)
	if e == 0 || path != fmt.Sprint("/", at) && !strings.HasPrefix(path, fmt.Sprint("/", at, "/")) {
		t.Fatalf("the oracle is wrong: %q, %d at %d", path, e, at)
	}
	checkFault(t, v, path, e)
}

// TestOfEachPlace: the path has the index of the item.
func TestOfEachPlace(t *testing.T) {
	v := written(many(4096))
	for at := 0; at < 4096; at += 1 + at/20 {
		held := v.Items[at]
		v.Items[at] = list()
		checkFault(t, v, fmt.Sprint("/", at), api.ErrKind)
		v.Items[at] = with(held, "a/b", 1)
		checkFault(t, v, fmt.Sprintf("/%d/a~1b", at), api.ErrUnknown)
		v.Items[at] = with(held, "milli", nil)
		checkFault(t, v, fmt.Sprintf("/%d/milli", at), api.ErrKind)
		v.Items[at] = with(held, "milli", 1000001)
		checkFault(t, v, fmt.Sprintf("/%d/milli", at), api.ErrRange)
		v.Items[at] = without(held, "path")
		checkFault(t, v, fmt.Sprintf("/%d/path", at), api.ErrMissing)
		v.Items[at] = with(held, "path", "x")
		checkFault(t, v, fmt.Sprintf("/%d/path", at), api.ErrRoute)
		v.Items[at] = held
	}
}

// TestOfEachMissingMember, alone and with others.
func TestOfEachMissingMember(t *testing.T) {
	for _, name := range order {
		checkFault(t, list(without(objectBy(right("a")), name)), "/0/"+name, api.ErrMissing)
		checkFault(t, list(objectBy(right("a")), without(objectBy(right("b")), name)), "/1/"+name, api.ErrMissing)
		v := without(objectBy(right("a")), name)
		v.Names = append(v.Names, name) // there is no item for it
		checkFault(t, list(v), "/0/"+name, api.ErrMissing)
	}
	for set := range 1 << len(order) {
		checkItem(t, without(objectBy(right("a")), chosen(set)...))
	}
}

// chosen are the members whose bits are set.
func chosen(set int) []string {
	var names []string
	for i, name := range order {
		if set>>i&1 == 1 {
			names = append(names, name)
		}
	}
	return names
}

// TestOfEachMemberOfAnotherKind, alone and with others. A member null is of another kind, and not missing.
func TestOfEachMemberOfAnotherKind(t *testing.T) {
	v := objectBy(right("a"))
	for _, name := range order {
		for _, wrong := range notFor(name) {
			checkFault(t, list(with(v, name, wrong)), "/0/"+name, api.ErrKind)
			checkFault(t, list(objectBy(right("b")), with(v, name, wrong)), "/1/"+name, api.ErrKind)
		}
	}
	for set := range 1 << len(order) {
		wrong := v
		for _, name := range chosen(set) {
			if isText(name) {
				wrong = with(wrong, name, 1)
			} else {
				wrong = with(wrong, name, "1")
			}
		}
		checkItem(t, wrong)
	}
}

// TestOfTheFirstWrongMember: of any two that are missing, of another kind, out of range or not valid.
func TestOfTheFirstWrongMember(t *testing.T) {
	ways := []func(v api.Value, name string) api.Value{
		func(v api.Value, name string) api.Value { return without(v, name) },
		func(v api.Value, name string) api.Value { return with(v, name, nil) },
		func(v api.Value, name string) api.Value { return with(v, name, list()) },
		func(v api.Value, name string) api.Value {
			if isText(name) {
				return with(v, name, "\xff")
			}
			return with(v, name, -1)
		},
		func(v api.Value, name string) api.Value {
			if isText(name) {
				return with(v, name, "")
			}
			return with(v, name, 1000001)
		},
		func(v api.Value, name string) api.Value {
			if isText(name) {
				return with(v, name, "a")
			}
			return with(v, name, 0)
		},
		func(v api.Value, name string) api.Value { return with(v, name+"/", 1) },
	}
	for _, first := range order {
		for _, second := range order {
			for _, one := range ways {
				for _, other := range ways {
					checkItem(t, other(one(objectBy(right("a")), first), second))
					checkOf(t, list(one(objectBy(right("a")), first), other(objectBy(right("b")), second)))
					for _, third := range ways {
						checkOf(t, list(third(other(one(objectBy(right("a")), first), second), "milli")))
					}
				}
			}
		}
	}
}

// TestOfUnknownNames: each byte, names that are almost known, and all escapes of paths.
func TestOfUnknownNames(t *testing.T) {
	tried := []string{"", "Name", "NAME", "name ", " name", "n", "names", "Milli", "\u0131", "id", "note", "route", "priority", "kind", "rate", "per", "perSecond", "cost", "max", "match", "rank", "limit", "window", "unit", "version", "rules",
		"a/b", "/", "//", "~", "~0", "~1", "~01", "/0", "0", "~/~", "\xff", "\x00", "name\x00", "\u4e16", strings.Repeat("x", 1000)}
	for b := range 256 {
		tried = append(tried, string([]byte{byte(b)}), "name"+string([]byte{byte(b)}))
	}
	for _, name := range order {
		tried = append(tried, name[1:], name[:len(name)-1], name+name, strings.ToUpper(name), "/"+name, name+"~1")
	}
	for _, name := range tried {
		path := "/0/" + strings.ReplaceAll(strings.ReplaceAll(name, "~", "~0"), "/", "~1")
		checkFault(t, list(with(objectBy(right("a")), name, 1)), path, api.ErrUnknown)
		checkFault(t, list(object(name, nil)), path, api.ErrUnknown)
		checkFault(t, list(object(name, list(), "name", 1, "other", 2)), path, api.ErrUnknown)
		checkFault(t, list(object("milli", -1, name, "x")), path, api.ErrUnknown)
		v := with(objectBy(right("a")), name, "x")
		v.Items = v.Items[:len(v.Items)-1] // a name without an item is one
		checkFault(t, list(v), path, api.ErrUnknown)
		checkOf(t, list(object("name", 1), v))
		checkOf(t, list(api.Value{}, v))
		checkOf(t, list(v, api.Value{}))
	}
	checkFault(t, list(object("y", 1, "x", 2)), "/0/y", api.ErrUnknown)
	checkFault(t, list(object("name", 1, "y", 1, "path", 5, "x", 2)), "/0/y", api.ErrUnknown)
}

// TestOfEachThousandth: the rate is the number nearest to it, and what was read is written as it was.
func TestOfEachThousandth(t *testing.T) {
	for n := 0; n <= 1000000; {
		l := many(min(4096, 1000001-n))
		v := list()
		for i := range l {
			v.Items = append(v.Items, object("burst", l[i].Burst, "milli", n, "path", l[i].Path, "name", l[i].Name))
			l[i].PerSecond = float64(n) / 1000
			n++
		}
		checkRules(t, v, l)
		put, _, e := Put(l)
		if e != api.OK || !tree.Alike(put, v) {
			t.Fatalf("Put(%s) = %s, %d", rules(l), told(put), e)
		}
	}
	for _, n := range []int{0, 1, 3, 7, 333, 1001, 999999, 1000000, 123457} {
		checkRules(t, list(with(objectBy(right("a")), "milli", n)), []api.RuleOne{rate(thousandthBy(int64(n)))})
	}
}

// TestOfEachNumber: about the limits, and where fewer bits would be another number.
func TestOfEachNumber(t *testing.T) {
	tried := []int{math.MinInt, math.MinInt + 1, math.MinInt + 1500, -1 << 32, -1<<32 + 1500, -1500, -2, -1, 0, 1, 2, 3, 99, 100, 101, 999, 1000, 1001, 999999, 1000000, 1000001, 1000002, 1 << 31, 1<<31 + 1500, 1 << 32, 1<<32 + 1, 1<<32 + 1500, math.MaxInt - 1, math.MaxInt}
	v := objectBy(right("a"))
	for _, n := range tried {
		checkItem(t, with(v, "milli", n))
		checkItem(t, with(v, "burst", n))
		if n < 0 || n > 1000000 {
			checkFault(t, list(with(v, "milli", n)), "/0/milli", api.ErrRange)
		} else {
			checkRules(t, list(with(v, "milli", n)), []api.RuleOne{rate(thousandthBy(int64(n)))})
		}
		if n < 1 || n > 1000000 {
			checkFault(t, list(with(v, "burst", n)), "/0/burst", api.ErrRange)
		} else {
			checkRules(t, list(with(v, "burst", n)), []api.RuleOne{burst(n)})
		}
		for _, m := range tried {
			checkItem(t, with(with(v, "milli", n), "burst", m))
		}
	}
	for n := 1; n <= 1000000; n += 1 + n/100 {
		checkRules(t, list(with(v, "burst", n)), []api.RuleOne{burst(n)})
	}
}

// TestOfEachText: of all bytes and at the limits.
func TestOfEachText(t *testing.T) {
	tried := []string{"", "a", "/", "/a", "name", "\xff", "\xc3", "\u00e9", "/*", "/**", "/a/**/b", strings.Repeat("/a", 31), strings.Repeat("/a", 32)}
	for b := range 256 {
		tried = append(tried, string([]byte{byte(b)}), "a"+string([]byte{byte(b)}), "/a"+string([]byte{byte(b)}))
	}
	for _, size := range []int{63, 64, 65, 251, 252, 253, 254, 255, 256, 257, 1000} {
		tried = append(tried, strings.Repeat("a", size), "/"+strings.Repeat("a", size-1))
	}
	for _, s := range tried {
		checkItem(t, with(objectBy(right("a")), "name", s))
		checkItem(t, with(objectBy(right("a")), "path", s))
		checkItem(t, with(with(objectBy(right("a")), "name", s), "path", s))
	}
}

// TestOfSetsThatAreNotValid: what consists of the right things is judged at last, also where a later item is wrong.
func TestOfSetsThatAreNotValid(t *testing.T) {
	one, wrong := objectBy(right("z")), objectBy(burst(0))
	checkFault(t, list(one, wrong), "/1/burst", api.ErrRange)
	checkFault(t, list(wrong, one), "/0/burst", api.ErrRange)
	checkFault(t, list(one, one), "/1/name", api.ErrTwice)
	checkFault(t, list(wrong, object()), "/1/name", api.ErrMissing)
	checkFault(t, list(wrong, text("")), "/1", api.ErrKind)
	checkFault(t, list(wrong, with(one, "x", 1)), "/1/x", api.ErrUnknown)
	checkFault(t, list(one, one, with(one, "burst", "")), "/2/burst", api.ErrKind)
	checkFault(t, list(one, one, with(one, "milli", -1)), "/2/milli", api.ErrRange)
	checkFault(t, list(with(one, "name", ""), with(one, "milli", 1000001)), "/1/milli", api.ErrRange)
	checkFault(t, list(with(one, "milli", 1000001), with(one, "name", 1)), "/0/milli", api.ErrRange)
	checkFault(t, list(with(one, "name", ""), with(one, "path", "")), "/0/name", api.ErrId)
	checkFault(t, list(one, with(wrong, "path", "x")), "/1/path", api.ErrRoute)
}

// TestOfNamesThatAreThereTwice: the first one counts; of names without items, none.
func TestOfNamesThatAreThereTwice(t *testing.T) {
	v := objectBy(right("a"))
	for _, name := range order {
		first, _ := itemOf(v, name)
		for _, other := range []api.Value{text("x"), number(-1), {}, first} {
			again := v
			again.Names, again.Items = append(slices.Clone(v.Names), name), append(slices.Clone(v.Items), other)
			checkRules(t, list(again), []api.RuleOne{right("a")})
			ahead := api.Value{Kind: 5, Names: append([]string{name}, v.Names...), Items: append([]api.Value{other}, v.Items...)}
			checkItem(t, ahead)
		}
	}
	for size := range v.Items {
		short := v
		short.Items = v.Items[:size]
		checkFault(t, list(short), "/0/"+order[size], api.ErrMissing)
		checkItem(t, short)
		short = v
		short.Names = v.Names[:size]
		checkFault(t, list(short), "/0/"+order[size], api.ErrMissing)
		short.Items = append(slices.Clone(v.Items), text("more"), number(1))
		checkItem(t, short)
	}
	v.Items = append(v.Items, text("more"))
	checkRules(t, list(v), []api.RuleOne{right("a")})
}

// TestOfMembersInAnyOrder: neither that of the members nor that of the items counts.
func TestOfMembersInAnyOrder(t *testing.T) {
	r := rand.New(rand.NewSource(2))
	for range 5000 {
		l := setAtRandom(r, 1+r.Intn(6))
		form, _, _ := setone.Canon(l)
		checkRules(t, spelt(r, l), form)
	}
}

func TestOfAtRandom(t *testing.T) {
	r := rand.New(rand.NewSource(3))
	faults := map[api.Errno]int{}
	for range 60000 {
		v := spelt(r, setAtRandom(r, r.Intn(5)))
		for range r.Intn(4) {
			v = spoil(r, v)
		}
		checkOf(t, v)
		_, _, e := ofBy(v)
		faults[e]++
	}
	for _, e := range []api.Errno{api.OK, api.ErrRange, api.ErrTwice, api.ErrId, api.ErrRoute, api.ErrKind, api.ErrMissing, api.ErrUnknown} {
		if faults[e] < 50 {
			t.Fatalf("error %d was tried %d times", e, faults[e])
		}
	}
}

// P26.3

// TestWhatIsPutIsRead: also when it has been written and read between, by this program and by another one.
func TestWhatIsPutIsRead(t *testing.T) {
	r := rand.New(rand.NewSource(4))
	for range 5000 {
		l := setAtRandom(r, r.Intn(8))
		form, _, _ := setone.Canon(l)
		v, path, e := Put(l)
		if path != "" || e != api.OK {
			t.Fatalf("Put(%s) = %q, %d", rules(l), path, e)
		}
		checkRules(t, v, form)
		again, _, _ := Put(form)
		if !tree.Same(v, again) {
			t.Fatalf("Put of the canonical form of %s is another value", rules(l))
		}
		s, _ := render.Put(v)
		checkRules(t, from(t, s), form)
		checkMembers(t, s, form)
		pretty, _ := render.Pretty(v)
		checkRules(t, from(t, pretty), form)
	}
}

// checkMembers holds the text of a set against another reader of JSON.
func checkMembers(t *testing.T, s string, form []api.RuleOne) {
	t.Helper()
	var read []map[string]any
	if err := json.Unmarshal([]byte(s), &read); err != nil || len(read) != len(form) {
		t.Fatalf("%s: %v", s, err)
	}
	for i, r := range form {
		want := map[string]any{"name": r.Name, "path": r.Path, "milli": float64(milliBy(r.PerSecond)), "burst": float64(r.Burst)}
		if fmt.Sprint(read[i]) != fmt.Sprint(want) {
			t.Fatalf("%v is written as %v", want, read[i])
		}
	}
}

// TestWhatIsReadIsReadAgain: of values with members in any order.
func TestWhatIsReadIsReadAgain(t *testing.T) {
	r := rand.New(rand.NewSource(5))
	for range 5000 {
		v := spelt(r, setAtRandom(r, r.Intn(6)))
		first, path, e := Of(v)
		if path != "" || e != api.OK || !setone.Is(first) {
			t.Fatalf("Of(%s) = %s, %q, %d", told(v), rules(first), path, e)
		}
		again, _, _ := Put(first)
		checkRules(t, again, first)
	}
	full, _, e := Put(many(4096))
	if e != api.OK {
		t.Fatalf("Put of 4096 rules: %d", e)
	}
	checkRules(t, full, many(4096))
}

// R1, R3 and R4

// checkEnds fails if a call takes too long.
func checkEnds(t *testing.T, what string, call func()) {
	t.Helper()
	done := make(chan bool)
	go func() {
		call()
		close(done)
	}()
	select {
	case <-done:
	case <-time.After(100 * time.Second):
		t.Fatalf("%s does not end", what)
	}
}

// deep is nested that many levels.
func deep(levels int, kind int) api.Value {
	v := api.Value{Kind: kind, Names: []string{"name"}}
	for range levels - 1 {
		v = api.Value{Kind: kind, Items: []api.Value{v}, Names: []string{"name"}}
	}
	return v
}

func TestDeepValuesEnd(t *testing.T) {
	checkEnds(t, "a call with deep values", func() {
		for _, kind := range []int{api.VList, api.VObject, api.VText, api.VNumber} {
			v := deep(65000, kind)
			checkOf(t, v)
			checkOf(t, list(v))
			for _, name := range order {
				checkOf(t, list(with(objectBy(right("a")), name, v)))
			}
		}
	})
}

func TestGreatArgumentsEnd(t *testing.T) {
	const size = 1 << 20
	great := api.Value{Kind: 5, Items: make([]api.Value, size), Names: make([]string, size)}
	for i := range size {
		great.Names[i] = fmt.Sprint("n", i)
		great.Items[i] = number(i)
	}
	twice := api.Value{Kind: 5, Items: make([]api.Value, size), Names: slices.Repeat([]string{"burst"}, size)}
	long := strings.Repeat("a", 1<<26)
	longName := right(long)
	longPath := path("/" + long)
	checkEnds(t, "a call with great arguments", func() {
		checkFault(t, great, "", api.ErrKind)
		checkFault(t, list(great), "/0/n0", api.ErrUnknown)
		checkFault(t, list(twice), "/0/name", api.ErrMissing)
		checkFault(t, list(with(objectBy(right("a")), "milli", great)), "/0/milli", api.ErrKind)
		checkFault(t, list(object("name", long, "path", long, "milli", 1, "burst", 1)), "/0/name", api.ErrId)
		checkFault(t, list(object("name", "a", "path", "/"+long, "milli", 1, "burst", 1)), "/0/path", api.ErrRoute)
		checkFault(t, list(object(long, 1)), "/0/"+long, api.ErrUnknown)
		checkPutFault(t, []api.RuleOne{longName}, "/0/name", api.ErrId)
		checkPutFault(t, []api.RuleOne{longPath}, "/0/path", api.ErrRoute)
		checkPutFault(t, make([]api.RuleOne, size), "", api.ErrMany)
		for range 20 {
			checkFault(t, list(slices.Repeat([]api.Value{objectBy(right("a"))}, 4096)...), "/1/name", api.ErrTwice)
		}
	})
}

// inside tells whether s lies in the memory of all.
func inside(s, all string) bool {
	at, from := uintptr(unsafe.Pointer(unsafe.StringData(s))), uintptr(unsafe.Pointer(unsafe.StringData(all)))
	return s != "" && at >= from && at < from+uintptr(len(all))
}

// TestResultsAreNewMemory: no string in a result is one of an argument.
func TestResultsAreNewMemory(t *testing.T) {
	all := "abc /x/y unknown"
	r := api.RuleOne{Name: all[:3], Path: all[4:8], PerSecond: 2, Burst: 1}
	put, _, _ := Put([]api.RuleOne{r})
	for i, item := range put.Items[0].Items {
		if inside(item.S, all) || item.S != []string{"abc", "/x/y", "", ""}[i] {
			t.Fatalf("Put: %q", item.S)
		}
	}
	v := object("name", all[:3], "path", all[4:8], "milli", 2000, "burst", 1)
	l, _, e := Of(list(v))
	if e != api.OK || !same(l, []api.RuleOne{r}) || inside(l[0].Name, all) || inside(l[0].Path, all) {
		t.Fatalf("Of: %v, %d", l, e)
	}
	if _, path, e := Of(list(with(v, all[9:], 1))); path != "/0/unknown" || e != api.ErrUnknown || inside(path, all) {
		t.Fatalf("Of: %q, %d", path, e)
	}
}

// TestListsOfAResultAreApart: what is changed in one of them, or put behind it, is not seen in another one, nor in the next result.
func TestListsOfAResultAreApart(t *testing.T) {
	l := []api.RuleOne{rate(0.5), right("b"), right("c"), right("d")}
	want, _, _ := putBy(l)
	got, _, _ := Put(l)
	for i := range got.Items {
		_ = append(got.Items[i].Names, "behind")
		_ = append(got.Items[i].Items, text("behind"))
		if !tree.Same(got, want) {
			t.Fatalf("what is behind the lists of item %d is seen: %s", i, told(got))
		}
		clear(got.Items[i].Names)
		clear(got.Items[i].Items)
		for j := i + 1; j < len(got.Items); j++ {
			if !tree.Same(got.Items[j], want.Items[j]) {
				t.Fatalf("items %d and %d share memory", i, j)
			}
		}
		got.Items[i] = want.Items[i]
	}
	if again, _, _ := Put(l); !tree.Same(again, want) {
		t.Fatalf("the next result is %s", told(again))
	}
	put, _, _ := Put(l)
	for _, item := range put.Items {
		clear(item.Names)
	}
	first, _, _ := Of(want)
	clear(first)
	checkRules(t, want, l)
	checkPut(t, l...)
}

// copied is v in other memory, with room behind each list in which something is.
func copied(v api.Value) api.Value {
	items := make([]api.Value, 0, len(v.Items)+1)
	for _, item := range v.Items {
		items = append(items, copied(item))
	}
	names := append(make([]string, 0, len(v.Names)+1), v.Names...)
	_ = append(items, text("behind"))
	_ = append(names, "behind")
	v.Items, v.Names = items, names
	return v
}

// unchanged tells whether v, which copied made of want, is still so.
func unchanged(v, want api.Value) bool {
	if v.Kind != want.Kind || v.N != want.N || v.S != want.S || len(v.Items) != len(want.Items) || !slices.Equal(v.Names, want.Names) {
		return false
	}
	if v.Items[:len(v.Items)+1][len(v.Items)].S != "behind" || v.Names[:len(v.Names)+1][len(v.Names)] != "behind" {
		return false
	}
	for i := range v.Items {
		if !unchanged(v.Items[i], want.Items[i]) {
			return false
		}
	}
	return true
}

func TestArgumentsStayAsTheyWere(t *testing.T) {
	r := rand.New(rand.NewSource(6))
	for range 5000 {
		set := setAtRandom(r, 1+r.Intn(5))
		want := spelt(r, set)
		for range r.Intn(3) {
			want = spoil(r, want)
		}
		v := copied(want)
		l, _, _ := Of(v)
		for i := range l {
			l[i] = api.RuleOne{Name: "changed"}
		}
		if !unchanged(v, want) {
			t.Fatalf("%s has become %s", told(want), told(v))
		}
		room := append(slices.Clone(set), api.RuleOne{Name: "behind"})
		put, _, _ := Put(room[:len(set)])
		clear(put.Items)
		if !same(room[:len(set)], set) || room[len(set)].Name != "behind" {
			t.Fatalf("%s has become %s", rules(set), rules(room))
		}
	}
}

// TestStringsStayAsTheyWere: though the bytes of the argument become others.
func TestStringsStayAsTheyWere(t *testing.T) {
	bytes := []byte("/abc")
	p := unsafe.String(&bytes[0], len(bytes))
	s := p[1:]
	put, _, _ := Put([]api.RuleOne{{Name: s, Path: p, PerSecond: 1, Burst: 1}})
	l, _, _ := Of(list(object("name", s, "path", p, "milli", 1000, "burst", 1)))
	_, at, _ := Of(list(object(s, 1)))
	clear(bytes)
	if at != "/0/abc" || put.Items[0].Items[0].S != "abc" || put.Items[0].Items[1].S != "/abc" || l[0].Name != "abc" || l[0].Path != "/abc" {
		t.Fatalf("%q, %s, %v", at, told(put), l)
	}
}

// TestSameAnswerEachTime: whatever is called in between, also at the same time.
func TestSameAnswerEachTime(t *testing.T) {
	shared := setAtRandom(rand.New(rand.NewSource(7)), 50)
	sharedForm, _, _ := setone.Canon(shared)
	sharedValue, _, _ := putBy(shared)
	done := make(chan bool)
	for worker := range 8 {
		go func() {
			defer func() { done <- true }()
			r := rand.New(rand.NewSource(int64(worker)))
			for range 800 {
				v := spelt(r, setAtRandom(r, r.Intn(4)))
				if r.Intn(2) == 0 {
					v = spoil(r, v)
				}
				want, path, e := ofBy(v)
				if got, at, wrong := Of(v); !same(got, want) || at != path || wrong != e {
					t.Errorf("Of(%s) = %s, %q, %d, want %s, %q, %d", told(v), rules(got), at, wrong, rules(want), path, e)
					return
				}
				if got, _, e := Put(shared); e != api.OK || !tree.Same(got, sharedValue) {
					t.Errorf("Put = %s, %d", told(got), e)
					return
				}
				if got, _, e := Of(sharedValue); e != api.OK || !same(got, sharedForm) {
					t.Errorf("Of = %s, %d", rules(got), e)
					return
				}
			}
		}()
	}
	for range 8 {
		<-done
	}
}
