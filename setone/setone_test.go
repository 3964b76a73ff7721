package setone

import (
	"fmt"
	"math"
	"math/big"
	"math/rand"
	"regexp"
	"slices"
	"sort"
	"strings"
	"testing"
	"time"
	"unsafe"

	"stoplog/api"
	"stoplog/real"
)

// What the functions must answer, by the chapter's own words.

var (
	idForm    = regexp.MustCompile(`\A[a-z][-a-z0-9_.]{0,63}\z`)
	routeForm = regexp.MustCompile(`\A(?:/|(?:/[-a-zA-Z0-9_.~%]+){1,31})\z`)
	negative  = math.Copysign(0, -1)
)

// milliOf multiplies exactly, and looks for the nearest integer, of two equally near ones the even one.
func milliOf(x float64) (int, api.Errno) {
	if x != x || x > math.MaxFloat64 || x < 0 {
		return 0, 18
	}
	if x > 2000 {
		return 0, 6
	}
	product := new(big.Rat).Mul(new(big.Rat).SetFloat64(x), big.NewRat(1000, 1))
	whole := new(big.Int).Quo(product.Num(), product.Denom())
	rest := new(big.Rat).Sub(product, new(big.Rat).SetInt(whole))
	n := int(whole.Int64())
	if half := rest.Cmp(big.NewRat(1, 2)); half > 0 || half == 0 && n%2 == 1 {
		n++
	}
	if n > 1000000 {
		return 0, 6
	}
	return n, 0
}

// thousandthOf is the nearest float, as big.Rat tells it.
func thousandthOf(n int) float64 {
	x, _ := big.NewRat(int64(n), 1000).Float64()
	return x
}

// ruleOf looks at one rule alone.
func ruleOf(r api.RuleOne) (string, api.Errno) {
	if !idForm.MatchString(r.Name) {
		return "/name", 13
	}
	if len(r.Path) >= 253 || !routeForm.MatchString(r.Path) {
		return "/path", 14
	}
	if _, e := milliOf(r.PerSecond); e != 0 {
		return "/perSecond", e
	}
	if r.Burst < 1 || 1000000 < r.Burst {
		return "/burst", 2
	}
	return "", 0
}

// checkOf holds each rule against all earlier ones.
func checkOf(l []api.RuleOne) (string, api.Errno) {
	if len(l) >= 4097 {
		return "", 12
	}
	for i := range l {
		if path, e := ruleOf(l[i]); e != 0 {
			return fmt.Sprintf("/%d%s", i, path), e
		}
		for j := range i {
			if l[j].Name == l[i].Name {
				return fmt.Sprintf("/%d/name", i), 11
			}
		}
	}
	return "", 0
}

// canonOf sorts the names and then takes the rule of each one.
func canonOf(l []api.RuleOne) ([]api.RuleOne, string, api.Errno) {
	if path, e := checkOf(l); e != 0 {
		return nil, path, e
	}
	rules := map[string]api.RuleOne{}
	var names []string
	for _, r := range l {
		n, _ := milliOf(r.PerSecond)
		r.PerSecond = thousandthOf(n)
		rules[r.Name] = r
		names = append(names, r.Name)
	}
	sort.Strings(names)
	var all []api.RuleOne
	for _, name := range names {
		all = append(all, rules[name])
	}
	return all, "", 0
}

// isOf looks at each rule, and at the names of each two neighbours.
func isOf(l []api.RuleOne) bool {
	if _, e := checkOf(l); e != 0 {
		return false
	}
	for i, r := range l {
		n, _ := milliOf(r.PerSecond)
		if math.Float64bits(thousandthOf(n)) != math.Float64bits(r.PerSecond) {
			return false
		}
		if i > 0 && l[i-1].Name >= r.Name {
			return false
		}
	}
	return true
}

// sameOf compares what is written of both; all NaNs are written alike, and -0 otherwise than 0.
func sameOf(a, b []api.RuleOne) bool {
	write := func(l []api.RuleOne) string {
		var all strings.Builder
		for _, r := range l {
			fmt.Fprintf(&all, "%q %q %g %d\n", r.Name, r.Path, r.PerSecond, r.Burst)
		}
		return all.String()
	}
	return write(a) == write(b)
}

// Checks of one call each.

func checkCheck(t *testing.T, l []api.RuleOne, path string, wrong api.Errno) {
	t.Helper()
	if got, e := Check(l); got != path || e != wrong {
		t.Fatalf("Check(%s) = %q, %d, want %q, %d", told(l), got, e, path, wrong)
	}
}

// checkWrong sees that l has neither a canonical form nor another fault.
func checkWrong(t *testing.T, l []api.RuleOne, path string, wrong api.Errno) {
	t.Helper()
	checkCheck(t, l, path, wrong)
	if got, at, e := Canon(l); len(got) != 0 || at != path || e != wrong {
		t.Fatalf("Canon(%s) = %s, %q, %d, want %q, %d", told(l), told(got), at, e, path, wrong)
	}
	checkIs(t, l, false)
}

func checkCanon(t *testing.T, l, want []api.RuleOne) {
	t.Helper()
	got, path, e := Canon(l)
	if !sameOf(got, want) || path != "" || e != 0 {
		t.Fatalf("Canon(%s) = %s, %q, %d, want %s", told(l), told(got), path, e, told(want))
	}
}

func checkIs(t *testing.T, l []api.RuleOne, want bool) {
	t.Helper()
	if got := Is(l); got != want {
		t.Fatalf("Is(%s) = %t", told(l), got)
	}
}

func checkSame(t *testing.T, a, b []api.RuleOne, want bool) {
	t.Helper()
	if got := Same(a, b); got != want {
		t.Fatalf("Same(%s, %s) = %t", told(a), told(b), got)
	}
	if got := Same(b, a); got != want {
		t.Fatalf("Same(%s, %s) = %t", told(b), told(a), got)
	}
}

// checkSet holds all functions against the oracles, and what is canonical against P23.5.
func checkSet(t *testing.T, l []api.RuleOne) {
	t.Helper()
	want, path, e := canonOf(l)
	if e != 0 {
		checkWrong(t, l, path, e)
		return
	}
	checkCheck(t, l, "", 0)
	checkCanon(t, l, want)
	checkIs(t, l, isOf(l))
	checkSame(t, l, want, isOf(l))
	checkCheck(t, want, "", 0)
	checkCanon(t, want, want)
	checkIs(t, want, true)
}

// told is a set, or its beginning if it is long.
func told(l []api.RuleOne) string {
	if len(l) > 10 {
		return fmt.Sprintf("%d rules, %.2000s", len(l), fmt.Sprintf("%+v", l[:10]))
	}
	return fmt.Sprintf("%.2000s", fmt.Sprintf("%+v", l))
}

// What is tried.

// right is canonical, with that name.
func right(name string) api.RuleOne {
	return api.RuleOne{Name: name, Path: "/a/b", PerSecond: 1.5, Burst: 5}
}

// rights are rules with those names.
func rights(names ...string) []api.RuleOne {
	var l []api.RuleOne
	for _, name := range names {
		l = append(l, right(name))
	}
	return l
}

// withPath is a set of one rule with that path.
func withPath(path string) []api.RuleOne {
	one := right("a")
	one.Path = path
	return []api.RuleOne{one}
}

// withRate is a set of one rule that permits x requests per second.
func withRate(x float64) []api.RuleOne {
	one := right("a")
	one.PerSecond = x
	return []api.RuleOne{one}
}

// withBurst is a set of one rule with that burst.
func withBurst(n int) []api.RuleOne {
	one := right("a")
	one.Burst = n
	return []api.RuleOne{one}
}

// fault is a way in which a rule is wrong, and what Check must answer of it.
type fault struct {
	spoil func(r *api.RuleOne)
	path  string
	e     api.Errno
}

// faults are in the order of the fields.
var faults = []fault{
	{func(r *api.RuleOne) { r.Name = "" }, "/name", 13},
	{func(r *api.RuleOne) { r.Name = "A" }, "/name", 13},
	{func(r *api.RuleOne) { r.Name = strings.Repeat("a", 65) }, "/name", 13},
	{func(r *api.RuleOne) { r.Path = "" }, "/path", 14},
	{func(r *api.RuleOne) { r.Path = "x" }, "/path", 14},
	{func(r *api.RuleOne) { r.Path = "/a/" }, "/path", 14},
	{func(r *api.RuleOne) { r.Path = "/a/*" }, "/path", 14},
	{func(r *api.RuleOne) { r.Path = strings.Repeat("/a", 32) }, "/path", 14},
	{func(r *api.RuleOne) { r.Path = "/" + strings.Repeat("a", 252) }, "/path", 14},
	{func(r *api.RuleOne) { r.PerSecond = math.NaN() }, "/perSecond", 18},
	{func(r *api.RuleOne) { r.PerSecond = math.Inf(1) }, "/perSecond", 18},
	{func(r *api.RuleOne) { r.PerSecond = math.Inf(-1) }, "/perSecond", 18},
	{func(r *api.RuleOne) { r.PerSecond = -1 }, "/perSecond", 18},
	{func(r *api.RuleOne) { r.PerSecond = 1001 }, "/perSecond", 6},
	{func(r *api.RuleOne) { r.PerSecond = math.MaxFloat64 }, "/perSecond", 6},
	{func(r *api.RuleOne) { r.Burst = 0 }, "/burst", 2},
	{func(r *api.RuleOne) { r.Burst = -1 }, "/burst", 2},
	{func(r *api.RuleOne) { r.Burst = 1000001 }, "/burst", 2},
}

// rank is the place of a path among the fields.
func rank(path string) int {
	return slices.Index([]string{"/name", "/path", "/perSecond", "/burst"}, path)
}

// fields are changes of one field each.
var fields = []func(r *api.RuleOne){
	func(r *api.RuleOne) { r.Name += "z" },
	func(r *api.RuleOne) { r.Path += "z" },
	func(r *api.RuleOne) { r.PerSecond += 0.25 },
	func(r *api.RuleOne) { r.Burst++ },
}

// rates are numbers of all classes, and some at whose ends something changes.
func rates() []float64 {
	l := []float64{math.NaN(), math.Float64frombits(0x7ff8000000000001), math.Float64frombits(0xfff0000000000001), math.Inf(-1), math.Inf(1),
		math.MaxFloat64, -math.MaxFloat64, math.SmallestNonzeroFloat64, -math.SmallestNonzeroFloat64, negative, 0,
		0.0005, 0.001, 0.0015, 0.0025, 0.0625, 0.1875, 0.5, 1, 1.5, 1 / 3.0, 0.1, 0.2, 0.3, 0.1 + 0.2, 10, 33.3333, 999.999, 999.9995, 1000, 1000.0005, 1000.001, 1001, 2000, 2001, 1e6, 1e18, 1e19, 1e300, -0.5, -0.0001, -1, -1000, 5e-324, 1e-300}
	for _, x := range slices.Clone(l) {
		l = append(l, math.Nextafter(x, math.Inf(1)), math.Nextafter(x, math.Inf(-1)))
	}
	return l
}

// rateAtRandom is one of a few, or of many, seldom a wrong one.
func rateAtRandom(r *rand.Rand) float64 {
	switch r.Intn(6) {
	case 0:
		return float64(r.Intn(5)) / 4
	case 1:
		return float64(r.Intn(1000001)) / 1000
	case 2:
		return r.Float64() / 100
	case 3:
		return float64(r.Intn(16001)) / 16
	case 4:
		return negative
	}
	return r.Float64() * 1000
}

// pathAtRandom is a route of a few parts.
func pathAtRandom(r *rand.Rand) string {
	size := r.Intn(5)
	if size == 0 {
		return "/"
	}
	path := ""
	for range size {
		path += "/" + []string{"a", "b", "ab", "-_.~%", "Z9"}[r.Intn(5)]
	}
	return path
}

// nameAtRandom is one of a few, or of many.
func nameAtRandom(r *rand.Rand) string {
	if r.Intn(2) == 0 {
		return string(rune('a' + r.Intn(26)))
	}
	name := []byte{byte('a' + r.Intn(26))}
	for range r.Intn(4) {
		name = append(name, "az09-_."[r.Intn(7)])
	}
	return string(name)
}

// setAtRandom is valid if its names are different ones.
func setAtRandom(r *rand.Rand, size int) []api.RuleOne {
	var l []api.RuleOne
	for range size {
		l = append(l, api.RuleOne{Name: nameAtRandom(r), Path: pathAtRandom(r), PerSecond: rateAtRandom(r), Burst: 1 + r.Intn(3)})
	}
	return l
}

// distinct is l without the rules whose name an earlier one has.
func distinct(l []api.RuleOne) []api.RuleOne {
	var kept []api.RuleOne
	for _, r := range l {
		if !slices.ContainsFunc(kept, func(k api.RuleOne) bool { return k.Name == r.Name }) {
			kept = append(kept, r)
		}
	}
	return kept
}

// many are so many rules, in their canonical form.
func many(size int) []api.RuleOne {
	l := make([]api.RuleOne, size)
	for i := range l {
		l[i] = right(fmt.Sprintf("r%07d", i))
	}
	return l
}

// orders calls visit with each order of the rules.
func orders(l []api.RuleOne, from int, visit func(l []api.RuleOne)) {
	if from == len(l) {
		visit(l)
		return
	}
	for i := from; i < len(l); i++ {
		l[from], l[i] = l[i], l[from]
		orders(l, from+1, visit)
		l[from], l[i] = l[i], l[from]
	}
}

// P23.1

func TestCheckExamples(t *testing.T) {
	checkCheck(t, nil, "", api.OK)
	checkCheck(t, []api.RuleOne{}, "", api.OK)
	checkCheck(t, rights("a"), "", api.OK)
	checkCheck(t, rights("b", "a", "c"), "", api.OK)
	checkCheck(t, []api.RuleOne{{Name: "a", Path: "/", Burst: 1}}, "", api.OK)
	checkWrong(t, make([]api.RuleOne, 1), "/0/name", api.ErrId)
	checkWrong(t, make([]api.RuleOne, 2), "/0/name", api.ErrId)
	checkWrong(t, []api.RuleOne{{Name: "a"}}, "/0/path", api.ErrRoute)
	checkWrong(t, []api.RuleOne{{Name: "a", Path: "/"}}, "/0/burst", api.ErrRange)
	checkWrong(t, withRate(math.Inf(1)), "/0/perSecond", api.ErrReal)
	checkWrong(t, withRate(math.NaN()), "/0/perSecond", api.ErrReal)
	checkWrong(t, withRate(-1), "/0/perSecond", api.ErrReal)
	checkWrong(t, withRate(2000), "/0/perSecond", api.ErrOver)
	checkWrong(t, []api.RuleOne{right("a"), {}, {}}, "/1/name", api.ErrId)
	checkWrong(t, rights("a", "a"), "/1/name", api.ErrTwice)
	checkWrong(t, rights("a", "b", "c", "a"), "/3/name", api.ErrTwice)
	checkWrong(t, rights("a", "b", "c", "c"), "/3/name", api.ErrTwice)
	checkWrong(t, rights("a", "a", "b", "b"), "/1/name", api.ErrTwice)
	checkWrong(t, make([]api.RuleOne, 4096), "/0/name", api.ErrId)
	checkWrong(t, make([]api.RuleOne, 4097), "", api.ErrMany)
}

// TestNames: each length, and each byte at the beginning and behind it.
func TestNames(t *testing.T) {
	for size := range 300 {
		checkSet(t, rights(strings.Repeat("a", size)))
		checkSet(t, rights("b", strings.Repeat("z", size)))
	}
	checkCheck(t, rights(strings.Repeat("a", 64)), "", api.OK)
	checkWrong(t, rights(strings.Repeat("a", 65)), "/0/name", api.ErrId)
	for b := range 256 {
		c := string([]byte{byte(b)})
		for _, name := range []string{c, "a" + c, "a" + c + "b", c + "a", "ab" + c} {
			checkSet(t, rights(name))
		}
	}
	for _, name := range []string{"a-1.b", "a_", "1a", "-a", ".a", "_a", " a", "a ", "\u00e9", "a\u00e9", "a/b", "a*", "a\n", "a\x00"} {
		checkSet(t, rights(name))
	}
}

// TestPathsOfEachLength: of one part, of two, and of as many as there can be.
func TestPathsOfEachLength(t *testing.T) {
	for size := range 400 {
		checkSet(t, withPath(strings.Repeat("a", size)))
		checkSet(t, withPath("/"+strings.Repeat("a", size)))
		checkSet(t, withPath("/"+strings.Repeat("a", size)+"/b"))
		checkSet(t, withPath(strings.Repeat("/a", 30)+"/"+strings.Repeat("b", size)))
		checkSet(t, withPath(strings.Repeat("/a", 31)+"/"+strings.Repeat("b", size)))
		checkSet(t, withPath("/"+strings.Repeat("*", size)))
	}
	checkCheck(t, withPath("/"+strings.Repeat("a", 251)), "", api.OK)
	checkWrong(t, withPath("/"+strings.Repeat("a", 252)), "/0/path", api.ErrRoute)
	checkWrong(t, withPath("/"+strings.Repeat("a", 253)), "/0/path", api.ErrRoute)
	checkWrong(t, withPath("/"+strings.Repeat("a", 254)), "/0/path", api.ErrRoute)
	checkWrong(t, withPath("/"+strings.Repeat("a", 255)), "/0/path", api.ErrRoute)
}

// TestPathsOfEachNumberOfParts: short ones and such as have many bytes too.
func TestPathsOfEachNumberOfParts(t *testing.T) {
	for count := range 300 {
		for size := range 12 {
			part := "/" + strings.Repeat("a", size)
			checkSet(t, withPath(strings.Repeat(part, count)))
			checkSet(t, withPath(strings.Repeat(part, count)+"/"))
			checkSet(t, withPath(strings.Repeat(part, count)+"/*"))
		}
	}
	checkCheck(t, withPath(strings.Repeat("/a", 31)), "", api.OK)
	checkWrong(t, withPath(strings.Repeat("/a", 32)), "/0/path", api.ErrRoute)
	checkWrong(t, withPath(strings.Repeat("/a", 33)), "/0/path", api.ErrRoute)
	checkCheck(t, withPath(strings.Repeat("/abcdefg", 31)+"/bcd"[:4]), "/0/path", api.ErrRoute)
	checkCheck(t, withPath(strings.Repeat("/abcdefg", 30)+"/abcdefghijk"), "", api.OK)
	checkCheck(t, withPath(strings.Repeat("/abcdefg", 30)+"/abcdefghijkl"), "/0/path", api.ErrRoute)
}

// TestShortPaths: all of up to six of some characters, and each byte in each place of a short one.
func TestShortPaths(t *testing.T) {
	letters := "/a*.~"
	var extend func(s string, more int)
	extend = func(s string, more int) {
		checkSet(t, withPath(s))
		if more > 0 {
			for i := range letters {
				extend(s+letters[i:i+1], more-1)
			}
		}
	}
	extend("", 6)
	for b := range 256 {
		c := string([]byte{byte(b)})
		for _, path := range []string{c, "/" + c, "/a" + c, "/" + c + "/a", c + "/a", "/a/" + c, "/a" + c + "b"} {
			checkSet(t, withPath(path))
		}
	}
	for _, path := range []string{"/\u00e9", "/a/**", "/**", "/*", "/a/*/b", "/ ", "/a b", "/a\n", "a/b", "//", "/a//b", "/.", "/..", "/%41", "/a?b", "/a#b"} {
		checkSet(t, withPath(path))
	}
}

// TestRates: the error is that of real.Milli, and of those without an error the canonical form is that of the nearest thousandth.
func TestRates(t *testing.T) {
	for _, x := range rates() {
		checkSet(t, withRate(x))
		if _, e := real.Milli(x); e == api.OK {
			checkCheck(t, withRate(x), "", api.OK)
		} else {
			checkWrong(t, withRate(x), "/0/perSecond", e)
		}
	}
	checkCheck(t, withRate(1000), "", api.OK)
	checkCheck(t, withRate(1000.0005), "", api.OK)
	checkWrong(t, withRate(1000.0006), "/0/perSecond", api.ErrOver)
	checkWrong(t, withRate(1000.001), "/0/perSecond", api.ErrOver)
	checkCheck(t, withRate(0), "", api.OK)
	checkCheck(t, withRate(negative), "", api.OK)
	checkWrong(t, withRate(-math.SmallestNonzeroFloat64), "/0/perSecond", api.ErrReal)
}

func TestRatesAtRandom(t *testing.T) {
	r := rand.New(rand.NewSource(1))
	for range 10000 {
		checkSet(t, withRate(math.Float64frombits(r.Uint64())))
		checkSet(t, withRate(r.Float64()*1001))
		checkSet(t, withRate(math.Ldexp(r.Float64(), -r.Intn(80))))
		checkSet(t, withRate(1000+(r.Float64()-0.5)/100))
	}
}

func TestBursts(t *testing.T) {
	for n := -300; n <= 300; n++ {
		checkSet(t, withBurst(n))
		checkSet(t, withBurst(1000000+n))
		checkSet(t, withBurst(math.MaxInt32+n))
	}
	for _, n := range []int{math.MinInt, math.MinInt + 1, -1 << 32, 1 << 32, 1<<32 + 1, math.MaxInt - 1, math.MaxInt} {
		checkWrong(t, withBurst(n), "/0/burst", api.ErrRange)
	}
	checkWrong(t, withBurst(-1), "/0/burst", api.ErrRange)
	checkWrong(t, withBurst(0), "/0/burst", api.ErrRange)
	checkCheck(t, withBurst(1), "", api.OK)
	checkCheck(t, withBurst(1000000), "", api.OK)
	checkWrong(t, withBurst(1000001), "/0/burst", api.ErrRange)
}

// TestCheckOfManyRules: that there are too many counts ahead of what is wrong with one of them.
func TestCheckOfManyRules(t *testing.T) {
	for size := range 300 {
		checkCheck(t, many(size), "", api.OK)
		checkIs(t, many(size), true)
	}
	for size := 4090; size <= 4100; size++ {
		l := many(size)
		path, e := "", api.OK
		if size > 4096 {
			e = api.ErrMany
		}
		checkCheck(t, l, path, e)
		for _, at := range []int{0, 1, 9, 10, 99, 100, 999, 1000, 2048, size - 2, size - 1} {
			held := l[at]
			l[at].Path = "x"
			path, e := fmt.Sprintf("/%d/path", at), api.ErrRoute
			if size > 4096 {
				path, e = "", api.ErrMany
			}
			checkWrong(t, l, path, e)
			l[at] = held
			if at > 0 {
				l[at].Name = l[at/2].Name
				if size <= 4096 {
					path, e = fmt.Sprintf("/%d/name", at), api.ErrTwice
				}
				checkWrong(t, l, path, e)
				l[at] = held
			}
		}
	}
	for _, size := range []int{5000, 8192, 65536, 65537, 70000, 1 << 20} {
		checkWrong(t, many(size), "", api.ErrMany)
		checkWrong(t, make([]api.RuleOne, size), "", api.ErrMany)
	}
}

// TestCheckOfEachPlace: the path has the index of the rule, whatever is wrong with it; of the later places, some.
func TestCheckOfEachPlace(t *testing.T) {
	l := many(4096)
	for at := 1; at < len(l); at += 1 + at/100 {
		held := l[at]
		f := faults[at%len(faults)]
		f.spoil(&l[at])
		checkCheck(t, l, fmt.Sprintf("/%d%s", at, f.path), f.e)
		l[at] = held
		l[at].Name = l[(at*7+3)%at].Name
		checkCheck(t, l, fmt.Sprintf("/%d/name", at), api.ErrTwice)
		l[at].Name = l[at-1].Name
		checkCheck(t, l, fmt.Sprintf("/%d/name", at), api.ErrTwice)
		l[at] = held
	}
}

// TestCheckOfEachFault: alone, behind right rules, and before others.
func TestCheckOfEachFault(t *testing.T) {
	for _, f := range faults {
		for size := 1; size <= 5; size++ {
			for at := range size {
				l := rights("a", "b", "c", "d", "e")[:size]
				f.spoil(&l[at])
				checkWrong(t, l, fmt.Sprintf("/%d%s", at, f.path), f.e)
			}
		}
	}
}

// TestTheFirstWrongFieldCounts: of any two or three that are wrong in one rule, in whatever ways.
func TestTheFirstWrongFieldCounts(t *testing.T) {
	for _, f := range faults {
		for _, g := range faults {
			for _, h := range faults {
				if rank(f.path) >= rank(g.path) || rank(g.path) > rank(h.path) {
					continue
				}
				l := rights("a", "b", "c")
				f.spoil(&l[1])
				h.spoil(&l[1])
				g.spoil(&l[1])
				checkWrong(t, l, "/1"+f.path, f.e)
			}
		}
	}
}

// TestTheFirstWrongRuleCounts: of any two that are wrong, in whatever ways.
func TestTheFirstWrongRuleCounts(t *testing.T) {
	for _, f := range faults {
		for _, g := range faults {
			for second := 1; second <= 3; second++ {
				for first := range second {
					l := rights("a", "b", "c", "d")
					f.spoil(&l[first])
					g.spoil(&l[second])
					checkWrong(t, l, fmt.Sprintf("/%d%s", first, f.path), f.e)
				}
			}
		}
	}
}

// TestOfOneRuleItsFieldsCountAheadOfItsNameTwice, and a rule that is wrong counts ahead of a later one that has its name.
func TestOfOneRuleItsFieldsCountAheadOfItsNameTwice(t *testing.T) {
	for _, f := range faults {
		l := rights("a", "b", "a", "b")
		f.spoil(&l[2])
		checkWrong(t, l, "/2"+f.path, f.e)
		l = rights("a", "b", "a", "b")
		f.spoil(&l[3])
		checkWrong(t, l, "/2/name", api.ErrTwice)
		l = rights("a", "b", "a", "b")
		f.spoil(&l[0])
		checkWrong(t, l, "/0"+f.path, f.e)
		l = rights("a", "b", "c", "b")
		f.spoil(&l[2])
		checkWrong(t, l, "/2"+f.path, f.e)
	}
}

// TestNamesThatAreAlmostTheSame are different ones.
func TestNamesThatAreAlmostTheSame(t *testing.T) {
	long := strings.Repeat("a", 63)
	checkSet(t, rights("a", "aa", "a.", "a-", "a_", "a0", "aaa", "b", long, long+"a", long+"b", long[:62]))
	checkSet(t, rights(long+"a", long+"b", long+"a"))
	for a := range 256 {
		for b := range 256 {
			checkSet(t, rights("a"+string([]byte{byte(a)}), "a"+string([]byte{byte(b)})))
		}
	}
}

// TestRulesThatDifferButHaveOneName: a name counts, not the rest of a rule; and rules that have all but the name in common are no fault.
func TestRulesThatDifferButHaveOneName(t *testing.T) {
	for _, change := range fields[1:] {
		l := rights("b", "a", "a")
		change(&l[2])
		checkWrong(t, l, "/2/name", api.ErrTwice)
	}
	checkCheck(t, rights("a", "b"), "", api.OK)
}

// TestCheckOfAllSmallSets: each rule has one of three names or is wrong in one of several ways.
func TestCheckOfAllSmallSets(t *testing.T) {
	kinds := append(rights("a", "b", "c"), api.RuleOne{}, api.RuleOne{Name: "a"}, api.RuleOne{Name: "a", Path: "/", PerSecond: -1, Burst: 1}, api.RuleOne{Name: "b", Path: "/"}, api.RuleOne{Name: "c", Path: "/", PerSecond: negative, Burst: 1})
	for size := range 5 {
		all := 1
		for range size {
			all *= len(kinds)
		}
		for n := range all {
			var l []api.RuleOne
			for range size {
				l = append(l, kinds[n%len(kinds)])
				n /= len(kinds)
			}
			checkSet(t, l)
		}
	}
}

func TestCheckAtRandom(t *testing.T) {
	r := rand.New(rand.NewSource(2))
	for range 4000 {
		l := setAtRandom(r, r.Intn(12))
		checkSet(t, l)
		l = distinct(l)
		checkSet(t, l)
		if len(l) > 0 {
			faults[r.Intn(len(faults))].spoil(&l[r.Intn(len(l))])
			checkSet(t, l)
			l[r.Intn(len(l))].Name = l[r.Intn(len(l))].Name
			checkSet(t, l)
		}
	}
	for range 20 {
		checkSet(t, distinct(setAtRandom(r, r.Intn(400))))
	}
}

// P23.2

func TestCanonExamples(t *testing.T) {
	checkCanon(t, nil, nil)
	checkCanon(t, []api.RuleOne{}, nil)
	checkCanon(t, rights("b", "a"), rights("a", "b"))
	checkCanon(t, rights("a", "b"), rights("a", "b"))
	checkCanon(t, withRate(negative), withRate(0))
	checkCanon(t, withRate(0), withRate(0))
	checkCanon(t, withRate(0.0004), withRate(0))
	checkCanon(t, withRate(0.0005), withRate(0.001))
	checkCanon(t, withRate(math.SmallestNonzeroFloat64), withRate(0))
	checkCanon(t, withRate(1.0/3), withRate(0.333))
	checkCanon(t, withRate(2.0/3), withRate(0.667))
	checkCanon(t, withRate(0.1+0.2), withRate(0.3))
	checkCanon(t, withRate(0.0625), withRate(0.062))
	checkCanon(t, withRate(0.1875), withRate(0.188))
	checkCanon(t, withRate(1.5), withRate(1.5))
	checkCanon(t, withRate(999.9999), withRate(1000))
	checkCanon(t, withRate(1000.0004), withRate(1000))
}

// TestCanonOfEachThousandth: each is its own form, and so is that of its neighbours.
func TestCanonOfEachThousandth(t *testing.T) {
	for n := 0; n <= 1000000; n += 1 + n/1000 {
		x := float64(n) / 1000
		checkIs(t, withRate(x), true)
		checkCanon(t, withRate(x), withRate(x))
		for _, near := range []float64{math.Nextafter(x, math.Inf(1)), math.Abs(math.Nextafter(x, 0)), x + 0.0004, math.Abs(x - 0.0004)} {
			if near != x {
				checkIs(t, withRate(near), false)
				checkCanon(t, withRate(near), withRate(x))
			}
		}
	}
}

// TestCanonOfHalves: what lies between two thousandths gets the even one.
func TestCanonOfHalves(t *testing.T) {
	for n := 1; n <= 16000; n += 2 {
		checkSet(t, withRate(float64(n)/16))
	}
}

// TestCanonLeavesTheRest: names, paths and bursts are as they were.
func TestCanonLeavesTheRest(t *testing.T) {
	l := []api.RuleOne{
		{Name: strings.Repeat("z", 64), Path: strings.Repeat("/a", 31), PerSecond: 0.25, Burst: 1000000},
		{Name: "b", Path: "/", PerSecond: 1000, Burst: 1},
		{Name: "a", Path: "/Aa0-_.~%/b", PerSecond: 7, Burst: 77},
		{Name: "a-", Path: "/" + strings.Repeat("x", 251), PerSecond: negative, Burst: 3},
	}
	want := []api.RuleOne{l[2], l[3], l[1], l[0]}
	want[1].PerSecond = 0
	checkCanon(t, l, want)
}

// TestCanonOrdersBytewise: neither by length, nor by numbers, nor by paths, rates or bursts.
func TestCanonOrdersBytewise(t *testing.T) {
	checkCanon(t, rights("b", "aa", "a", "ab", "a.b", "a-b", "a_b", "a0", "a9", "az", "a10", "a2"), rights("a", "a-b", "a.b", "a0", "a10", "a2", "a9", "a_b", "aa", "ab", "az", "b"))
	one := api.RuleOne{Name: "b", Path: "/", PerSecond: 0, Burst: 1}
	two := api.RuleOne{Name: "a", Path: "/z/z", PerSecond: 9, Burst: 9}
	checkCanon(t, []api.RuleOne{one, two}, []api.RuleOne{two, one})
	one.Name, two.Name = "a", "b"
	checkCanon(t, []api.RuleOne{two, one}, []api.RuleOne{one, two})
	letters := strings.Split("abcdefghijklmnopqrstuvwxyz", "")
	backward := slices.Clone(letters)
	slices.Reverse(backward)
	checkCanon(t, rights(backward...), rights(letters...))
	long := strings.Repeat("a", 63)
	checkCanon(t, rights(long+"b", long+"a", long, long[:62], long[:62]+"b"), rights(long[:62], long, long+"a", long+"b", long[:62]+"b"))
}

func TestCanonOfManyRules(t *testing.T) {
	r := rand.New(rand.NewSource(3))
	for _, size := range []int{1000, 4095, 4096} {
		l := many(size)
		backward := slices.Clone(l)
		slices.Reverse(backward)
		checkCanon(t, backward, l)
		checkIs(t, backward, false)
		r.Shuffle(size, func(i, j int) { backward[i], backward[j] = backward[j], backward[i] })
		checkCanon(t, backward, l)
		checkCanon(t, l, l)
	}
}

// TestCanonOfWrongSets: no rules, not even those before the wrong one.
func TestCanonOfWrongSets(t *testing.T) {
	r := rand.New(rand.NewSource(4))
	for range 5000 {
		l := distinct(setAtRandom(r, 1+r.Intn(10)))
		f, at := faults[r.Intn(len(faults))], r.Intn(len(l))
		f.spoil(&l[at])
		form, path, e := Canon(l)
		if len(form) != 0 || path != fmt.Sprintf("/%d%s", at, f.path) || e != f.e {
			t.Fatalf("Canon(%s) = %s, %q, %d", told(l), told(form), path, e)
		}
	}
}

// P23.3

func TestIsExamples(t *testing.T) {
	checkIs(t, nil, true)
	checkIs(t, []api.RuleOne{}, true)
	checkIs(t, rights("a"), true)
	checkIs(t, rights("a", "b"), true)
	checkIs(t, rights("b", "a"), false)
	checkIs(t, rights("a", "a"), false)
	checkIs(t, rights("a", "b", "d", "c"), false)
	checkIs(t, withRate(0), true)
	checkIs(t, withRate(negative), false)
	checkIs(t, withRate(math.NaN()), false)
	checkIs(t, withRate(math.Inf(1)), false)
	checkIs(t, withRate(0.0005), false)
	checkIs(t, withRate(0.3), true)
	checkIs(t, withRate(math.Nextafter(0.3, 1)), false)
	checkIs(t, withRate(1000), true)
	checkIs(t, withRate(1000.0001), false)
	checkIs(t, make([]api.RuleOne, 1), false)
	checkIs(t, many(4096), true)
	checkIs(t, many(4097), false)
	checkIs(t, append([]api.RuleOne{{}}, rights("a")...), false)
}

// TestIsOfRulesThatAreNotCanonical: in each place, with each rate that is not a thousandth.
func TestIsOfRulesThatAreNotCanonical(t *testing.T) {
	for _, x := range []float64{negative, 0.0001, 0.0625, 1.0 / 3, math.Nextafter(1.5, 2), math.Nextafter(1.5, 1), math.SmallestNonzeroFloat64, 1000.0002} {
		for size := 1; size <= 6; size++ {
			for at := range size {
				l := rights("a", "b", "c", "d", "e", "f")[:size]
				checkIs(t, l, true)
				l[at].PerSecond = x
				checkIs(t, l, false)
				checkCheck(t, l, "", api.OK)
				form, _, _ := Canon(l)
				checkIs(t, form, true)
			}
		}
	}
}

// TestIsOfEachFault: what is not valid is not canonical.
func TestIsOfEachFault(t *testing.T) {
	for _, f := range faults {
		for at := range 4 {
			l := rights("a", "b", "c", "d")
			f.spoil(&l[at])
			checkIs(t, l, false)
		}
	}
}

// TestIsOfEachOrder: of all orders, only the ascending one.
func TestIsOfEachOrder(t *testing.T) {
	ascending := rights("a", "b", "b-", "ba", "c", "d")
	ascending[1].Path, ascending[3].Burst, ascending[4].PerSecond = "/z", 9, 0
	count := 0
	orders(slices.Clone(ascending), 0, func(l []api.RuleOne) {
		checkIs(t, l, slices.Equal(l, ascending))
		if Is(l) {
			count++
		}
	})
	if count != 1 {
		t.Fatalf("%d orders are canonical", count)
	}
}

func TestIsAtRandom(t *testing.T) {
	r := rand.New(rand.NewSource(5))
	for range 10000 {
		l := setAtRandom(r, r.Intn(4))
		checkIs(t, l, isOf(l))
		form, _, _ := Canon(distinct(l))
		checkIs(t, form, true)
		if len(form) > 0 {
			form[r.Intn(len(form))].PerSecond = rateAtRandom(r)
			checkIs(t, form, isOf(form))
		}
	}
}

// P23.4

func TestSameExamples(t *testing.T) {
	checkSame(t, nil, nil, true)
	checkSame(t, nil, []api.RuleOne{}, true)
	checkSame(t, []api.RuleOne{}, make([]api.RuleOne, 0, 5), true)
	checkSame(t, nil, make([]api.RuleOne, 1), false)
	checkSame(t, rights("a"), rights("a"), true)
	checkSame(t, rights("a"), rights("b"), false)
	checkSame(t, rights("a", "b"), rights("a", "b"), true)
	checkSame(t, rights("a", "b"), rights("b", "a"), false)
	checkSame(t, rights("a", "b"), rights("a"), false)
	checkSame(t, rights("a", "b"), rights("b"), false)
	checkSame(t, rights("a", "a"), rights("a"), false)
	checkSame(t, rights("a", "a", "b"), rights("a", "b", "b"), false)
	checkSame(t, make([]api.RuleOne, 3), make([]api.RuleOne, 3), true)
	checkSame(t, make([]api.RuleOne, 3), make([]api.RuleOne, 4), false)
	checkSame(t, withRate(0), withRate(negative), false)
	checkSame(t, withRate(negative), withRate(negative), true)
	checkSame(t, withRate(math.NaN()), withRate(math.NaN()), true)
	checkSame(t, withRate(math.Inf(1)), withRate(math.Inf(-1)), false)
}

// TestSameOfEachTwoRates: PerSecond is compared by real.Same, in whichever rule it is.
func TestSameOfEachTwoRates(t *testing.T) {
	all := rates()
	for _, a := range all {
		for _, b := range all {
			checkSame(t, withRate(a), withRate(b), real.Same(a, b))
			checkSame(t, append(rights("b"), withRate(a)...), append(rights("b"), withRate(b)...), real.Same(a, b))
		}
	}
}

// TestSameOfEachField: a set with another field in one rule is another one.
func TestSameOfEachField(t *testing.T) {
	for _, change := range fields {
		for size := 1; size <= 4; size++ {
			for at := range size {
				l := append(rights("a", "b", "c"), api.RuleOne{})[:size]
				other := slices.Clone(l)
				checkSame(t, l, other, true)
				change(&other[at])
				checkSame(t, l, other, false)
				change(&l[at])
				checkSame(t, l, other, true)
			}
		}
	}
}

// TestSameTellsFormsApart: neither a set that is not valid nor one with the same canonical form is looked at otherwise.
func TestSameTellsFormsApart(t *testing.T) {
	checkSame(t, withRate(0.3), withRate(math.Nextafter(0.3, 1)), false)
	checkSame(t, withRate(0.3001), withRate(0.3), false)
	for _, f := range faults {
		wrong := right("a")
		f.spoil(&wrong)
		checkSame(t, []api.RuleOne{wrong}, []api.RuleOne{wrong}, true)
		checkSame(t, []api.RuleOne{wrong}, rights("a"), false)
		checkSame(t, []api.RuleOne{wrong}, nil, false)
	}
	checkSame(t, rights("\xff"), rights("\xfe"), false)
	checkSame(t, rights("\xff"), rights("\ufffd"), false)
	checkSame(t, withPath("\xff"), withPath("\xfe"), false)
	checkSame(t, rights("a", "a"), rights("a", "a"), true)
	checkSame(t, many(5000), many(5000), true)
	checkSame(t, many(5000), many(5001), false)
}

func TestSameAtRandom(t *testing.T) {
	r := rand.New(rand.NewSource(6))
	for range 20000 {
		a := setAtRandom(r, r.Intn(4))
		b := setAtRandom(r, r.Intn(4))
		if r.Intn(2) == 0 {
			b = slices.Clone(a)
		}
		if len(b) > 0 && r.Intn(2) == 0 {
			fields[r.Intn(len(fields))](&b[r.Intn(len(b))])
		}
		checkSame(t, a, b, sameOf(a, b))
		checkSame(t, a, slices.Clone(a), true)
	}
}

// P23.5

func TestCanonicalFormsAreTheirOwn(t *testing.T) {
	r := rand.New(rand.NewSource(7))
	for range 10000 {
		l := distinct(setAtRandom(r, r.Intn(20)))
		form, path, e := Canon(l)
		if path != "" || e != api.OK || len(form) != len(l) {
			t.Fatalf("Canon(%s) = %s, %q, %d", told(l), told(form), path, e)
		}
		checkCanon(t, form, form)
		checkIs(t, form, true)
		for i := 1; i < len(form); i++ {
			if form[i-1].Name >= form[i].Name {
				t.Fatalf("Canon(%s) = %s: not ascending at %d", told(l), told(form), i)
			}
		}
	}
}

// TestTheFormDoesNotDependOnTheOrder: all orders of a few rules, and some of more.
func TestTheFormDoesNotDependOnTheOrder(t *testing.T) {
	r := rand.New(rand.NewSource(8))
	for size := range 7 {
		for range 5 {
			l := distinct(setAtRandom(r, size))
			form, _, _ := Canon(l)
			orders(l, 0, func(l []api.RuleOne) { checkCanon(t, l, form) })
		}
	}
	for range 100 {
		l := distinct(setAtRandom(r, 200))
		form, _, _ := Canon(l)
		for range 3 {
			r.Shuffle(len(l), func(i, j int) { l[i], l[j] = l[j], l[i] })
			checkCanon(t, l, form)
		}
	}
}

// checkNear sees that the rate of x's form is not -0, and a whole number of thousandths that is at most a half of one from x.
// The float of those thousandths is their quotient's nearest, so that its own distance may be greater by what is lost there.
func checkNear(t *testing.T, x float64) {
	t.Helper()
	form, _, e := Canon(withRate(x))
	if e != api.OK || len(form) != 1 {
		t.Fatalf("Canon of %g = %s, %d", x, told(form), e)
	}
	y := form[0].PerSecond
	if math.Signbit(y) {
		t.Fatalf("the form of %g is %g", x, y)
	}
	thousandths := big.NewRat(int64(math.Round(y*1000)), 1000)
	if got, _ := thousandths.Float64(); got != y {
		t.Fatalf("the form of %g is %g, which is no thousandth", x, y)
	}
	apart := new(big.Rat).Sub(thousandths, new(big.Rat).SetFloat64(x))
	if apart.Abs(apart).Cmp(big.NewRat(1, 2000)) > 0 {
		t.Fatalf("the form of %g is %g", x, y)
	}
}

func TestFormsAreNear(t *testing.T) {
	for _, x := range rates() {
		if _, e := milliOf(x); e == 0 {
			checkNear(t, x)
		}
	}
	for n := range 16001 {
		checkNear(t, float64(n)/16)
	}
	r := rand.New(rand.NewSource(9))
	for range 50000 {
		checkNear(t, rateAtRandom(r))
		checkNear(t, math.Ldexp(r.Float64(), -r.Intn(80)))
	}
}

// R1, R3 and R4

// checkEnds fails if a call takes too long.
func checkEnds(t *testing.T, what string, call func()) {
	t.Helper()
	done := make(chan bool)
	go func() {
		call()
		close(done)
	}()
	select {
	case <-done:
	case <-time.After(20 * time.Second):
		t.Fatalf("%s does not end", what)
	}
}

func TestGreatArgumentsEnd(t *testing.T) {
	huge := make([]api.RuleOne, 1<<21)
	for i := range huge {
		huge[i].Name = "a"
	}
	full, other := many(4096), many(4096)
	long := strings.Repeat("a", 1<<26)
	slashes := strings.Repeat("/a", 1<<25)
	paths := []string{long, slashes, slashes + "/", slashes + "*", "/" + long}
	checkEnds(t, "a call with many rules", func() {
		if path, e := Check(huge); path != "" || e != api.ErrMany {
			t.Errorf("Check: %q, %d", path, e)
		}
		if l, path, e := Canon(huge); len(l) != 0 || path != "" || e != api.ErrMany {
			t.Errorf("Canon: %q, %d", path, e)
		}
		if Is(huge) || !Same(huge, huge) || Same(huge, huge[1:]) {
			t.Error("Is or Same of many rules")
		}
		for range 100 {
			if !Is(full) || !Same(full, other) {
				t.Error("Is or Same of a full set")
			}
		}
		for range 1000 {
			if path, e := Check(rights(long, "b")); path != "/0/name" || e != api.ErrId {
				t.Errorf("Check: %q, %d", path, e)
			}
			for _, s := range paths {
				if path, e := Check(withPath(s)); path != "/0/path" || e != api.ErrRoute {
					t.Errorf("Check: %q, %d", path, e)
				}
			}
		}
	})
}

func TestNumbersAtTheLimitsEnd(t *testing.T) {
	for _, n := range []int{math.MinInt, math.MinInt + 1, -1, 0, 1, math.MaxInt} {
		for _, x := range rates() {
			one := api.RuleOne{Name: "a", Path: "/", PerSecond: x, Burst: n}
			checkSet(t, []api.RuleOne{one})
			checkSet(t, []api.RuleOne{right("b"), one})
			checkSet(t, []api.RuleOne{one, one})
		}
	}
}

// inside tells whether s lies in the memory of all.
func inside(s, all string) bool {
	at, from := uintptr(unsafe.Pointer(unsafe.StringData(s))), uintptr(unsafe.Pointer(unsafe.StringData(all)))
	return s != "" && at >= from && at < from+uintptr(len(all))
}

// TestCanonicalFormsAreNewMemory: neither the list nor a string in it is that of the argument.
func TestCanonicalFormsAreNewMemory(t *testing.T) {
	r := rand.New(rand.NewSource(10))
	for i := range 3000 {
		l := distinct(setAtRandom(r, r.Intn(6)))
		if i%2 == 0 {
			l, _, _ = Canon(l) // what is canonical already is copied too
		}
		all := ""
		for _, r := range l {
			all += r.Name + r.Path
		}
		left := all
		piece := func(s string) string {
			s, left = left[:len(s)], left[len(s):]
			return s
		}
		for i := range l {
			l[i].Name, l[i].Path = piece(l[i].Name), piece(l[i].Path)
		}
		form, _, _ := Canon(l)
		for _, r := range form {
			if inside(r.Name, all) || inside(r.Path, all) {
				t.Fatalf("Canon(%s) shares a string", told(l))
			}
		}
		held := slices.Clone(l)
		for i := range form {
			form[i] = api.RuleOne{Name: "changed"}
		}
		if !sameOf(l, held) {
			t.Fatalf("Canon(%s) shares the list", told(held))
		}
	}
}

// TestArgumentsStayAsTheyWere: the rules, their order, and what lies behind the end of the list.
func TestArgumentsStayAsTheyWere(t *testing.T) {
	r := rand.New(rand.NewSource(11))
	for range 3000 {
		room := setAtRandom(r, r.Intn(12))
		l := room[:r.Intn(len(room)+1)]
		if kept := distinct(l); r.Intn(2) == 0 {
			copy(l, kept)
			l = l[:len(kept)]
		}
		held := slices.Clone(room)
		form, path, e := Canon(l)
		at, wrong := Check(l)
		is := Is(l)
		Same(l, room)
		for i := range form {
			form[i].Name += "z"
		}
		_ = append(form, api.RuleOne{Name: "behind"})
		if !sameOf(room, held) {
			t.Fatalf("%s has become %s", told(held), told(room))
		}
		clear(room)
		want, wantPath, wantE := canonOf(held[:len(l)])
		for i := range want {
			want[i].Name += "z"
		}
		if !sameOf(form, want) || path != wantPath || e != wantE || at != wantPath || wrong != wantE || is != isOf(held[:len(l)]) {
			t.Fatalf("of %s: %s, %q, %d; %q, %d; %t", told(held[:len(l)]), told(form), path, e, at, wrong, is)
		}
	}
}

// TestStringsStayAsTheyWere: though the bytes of the argument become others.
func TestStringsStayAsTheyWere(t *testing.T) {
	for _, names := range [][]string{{"bc", "ab"}, {"ab", "bc"}, {"ab", "ab"}, {"ab", "BC"}, {"a", "b"}} {
		first, second, path := []byte(names[0]), []byte(names[1]), []byte("/path")
		l := rights(unsafe.String(&first[0], len(first)), unsafe.String(&second[0], len(second)))
		l[0].Path = unsafe.String(&path[0], len(path))
		form, fault, e := Canon(l)
		at, wrong := Check(l)
		clear(first)
		clear(second)
		clear(path)
		l = rights(names...)
		l[0].Path = "/path"
		want, wantPath, wantE := canonOf(l)
		if !sameOf(form, want) || fault != wantPath || e != wantE || at != wantPath || wrong != wantE {
			t.Fatalf("of %q: %s, %q, %d; %q, %d", names, told(form), fault, e, at, wrong)
		}
	}
}

// TestSameAnswerEachTime: whatever is called in between, also at the same time.
func TestSameAnswerEachTime(t *testing.T) {
	shared := distinct(setAtRandom(rand.New(rand.NewSource(12)), 50))
	sharedForm, _, _ := canonOf(shared)
	done := make(chan bool)
	for worker := range 8 {
		go func() {
			defer func() { done <- true }()
			r := rand.New(rand.NewSource(int64(worker)))
			for range 1000 {
				l := setAtRandom(r, r.Intn(10))
				if r.Intn(2) == 0 {
					l = distinct(l)
				}
				want, path, e := canonOf(l)
				form, got, wrong := Canon(l)
				if !sameOf(form, want) || got != path || wrong != e || Is(l) != isOf(l) {
					t.Errorf("of %s: %s, %q, %d", told(l), told(form), got, wrong)
					return
				}
				if form, _, e := Canon(shared); e != api.OK || !sameOf(form, sharedForm) {
					t.Errorf("of %s: %s, %d", told(shared), told(form), e)
					return
				}
			}
		}()
	}
	for range 8 {
		<-done
	}
}
