package setthree

import (
	"fmt"
	"math"
	"math/rand"
	"slices"
	"sort"
	"strings"
	"testing"
	"time"
	"unsafe"

	"stoplog/api"
	"stoplog/rule"
)

// What the functions must answer, by the chapter's own words.

// checkOf holds each rule against all earlier ones.
func checkOf(l []api.Rule) (string, api.Errno) {
	if len(l) >= 4097 {
		return "", 12
	}
	for i := range l {
		if path, e := rule.Check(l[i]); e != 0 {
			return fmt.Sprintf("/%d%s", i, path), e
		}
		for j := range i {
			if l[j].Id == l[i].Id {
				return fmt.Sprintf("/%d/id", i), 11
			}
		}
	}
	return "", 0
}

// canonOf sorts the ids and then takes the rule of each one.
func canonOf(l []api.Rule) ([]api.Rule, string, api.Errno) {
	if path, e := checkOf(l); e != 0 {
		return nil, path, e
	}
	ids := map[string]api.Rule{}
	var order []string
	for _, r := range l {
		ids[r.Id], _, _ = rule.Canon(r)
		order = append(order, r.Id)
	}
	sort.Strings(order)
	var all []api.Rule
	for _, id := range order {
		all = append(all, ids[id])
	}
	return all, "", 0
}

// isOf looks at each rule, and at the ids of each two neighbours.
func isOf(l []api.Rule) bool {
	if _, e := checkOf(l); e != 0 {
		return false
	}
	for i, r := range l {
		if form, _, _ := rule.Canon(r); form != r {
			return false
		}
		if i > 0 && l[i-1].Id >= r.Id {
			return false
		}
	}
	return true
}

func findOf(l []api.Rule, id string) (int, bool) {
	for i := len(l) - 1; i >= 0; i-- {
		if l[i].Id == id {
			if j, ok := findOf(l[:i], id); ok {
				return j, true
			}
			return i, true
		}
	}
	return -1, false
}

func sameOf(a, b []api.Rule) bool {
	return len(a) == len(b) && fmt.Sprintf("%#v", append([]api.Rule{}, a...)) == fmt.Sprintf("%#v", append([]api.Rule{}, b...))
}

// Checks of one call each.

func checkCheck(t *testing.T, l []api.Rule, path string, wrong api.Errno) {
	t.Helper()
	if got, e := Check(l); got != path || e != wrong {
		t.Fatalf("Check(%s) = %q, %d, want %q, %d", told(l), got, e, path, wrong)
	}
}

// checkWrong sees that l has neither a canonical form nor another fault.
func checkWrong(t *testing.T, l []api.Rule, path string, wrong api.Errno) {
	t.Helper()
	checkCheck(t, l, path, wrong)
	if got, at, e := Canon(l); len(got) != 0 || at != path || e != wrong {
		t.Fatalf("Canon(%s) = %s, %q, %d, want %q, %d", told(l), told(got), at, e, path, wrong)
	}
	checkIs(t, l, false)
}

func checkCanon(t *testing.T, l, want []api.Rule) {
	t.Helper()
	got, path, e := Canon(l)
	if !slices.Equal(got, want) || path != "" || e != 0 {
		t.Fatalf("Canon(%s) = %s, %q, %d, want %s", told(l), told(got), path, e, told(want))
	}
}

func checkIs(t *testing.T, l []api.Rule, want bool) {
	t.Helper()
	if got := Is(l); got != want {
		t.Fatalf("Is(%s) = %t", told(l), got)
	}
}

func checkFind(t *testing.T, l []api.Rule, id string, want int) {
	t.Helper()
	if got, ok := Find(l, id); got != want || ok != (want != -1) {
		t.Fatalf("Find(%s, %q) = %d, %t, want %d", told(l), id, got, ok, want)
	}
}

func checkSame(t *testing.T, a, b []api.Rule, want bool) {
	t.Helper()
	if got := Same(a, b); got != want {
		t.Fatalf("Same(%s, %s) = %t", told(a), told(b), got)
	}
	if got := Same(b, a); got != want {
		t.Fatalf("Same(%s, %s) = %t", told(b), told(a), got)
	}
}

// checkSet holds all functions against the oracles, and what is canonical against P22.6.
func checkSet(t *testing.T, l []api.Rule) {
	t.Helper()
	want, path, e := canonOf(l)
	if e != 0 {
		checkWrong(t, l, path, e)
		return
	}
	checkCheck(t, l, "", 0)
	checkCanon(t, l, want)
	checkIs(t, l, isOf(l))
	checkSame(t, l, want, isOf(l))
	checkCheck(t, want, "", 0)
	checkCanon(t, want, want)
	checkIs(t, want, true)
}

// told is a set, or its beginning if it is long.
func told(l []api.Rule) string {
	if len(l) > 10 {
		return fmt.Sprintf("%d rules, %.2000s", len(l), fmt.Sprintf("%+v", l[:10]))
	}
	return fmt.Sprintf("%.2000s", fmt.Sprintf("%+v", l))
}

// What is tried.

// bucket, limit and breaker are canonical, with that id.
func bucket(id string) api.Rule {
	return api.Rule{Id: id, Route: "/", Kind: api.KindBucket, Rate: 1, Per: 100, Burst: 5, Cost: 2}
}

func limit(id string) api.Rule {
	return api.Rule{Id: id, Note: "a note", Route: "/a/*", Priority: 7, Kind: api.KindCap, Max: 3}
}

func breaker(id string) api.Rule {
	return api.Rule{Id: id, Note: "\u00e9", Route: "/**", Priority: 1000, Kind: api.KindBreaker, Fails: 5, Wait: 60000, Probes: 2}
}

// limits are caps with those ids.
func limits(ids ...string) []api.Rule {
	var l []api.Rule
	for _, id := range ids {
		l = append(l, limit(id))
	}
	return l
}

// fault is a way in which a rule of any kind is wrong, and what rule.Check must answer of it.
type fault struct {
	spoil func(r *api.Rule)
	path  string
	e     api.Errno
}

var faults = []fault{
	{func(r *api.Rule) { r.Id = "" }, "/id", 13},
	{func(r *api.Rule) { r.Id = "A" }, "/id", 13},
	{func(r *api.Rule) { r.Id = strings.Repeat("a", 65) }, "/id", 13},
	{func(r *api.Rule) { r.Note = strings.Repeat("a", 256) }, "/note", 5},
	{func(r *api.Rule) { r.Note = "\xff" }, "/note", 8},
	{func(r *api.Rule) { r.Route = "" }, "/route", 14},
	{func(r *api.Rule) { r.Route = "x" }, "/route", 14},
	{func(r *api.Rule) { r.Priority = -1 }, "/priority", 2},
	{func(r *api.Rule) { r.Priority = 1001 }, "/priority", 2},
	{func(r *api.Rule) { r.Kind = 0 }, "/kind", 15},
	{func(r *api.Rule) { r.Kind = 4 }, "/kind", 15},
	{func(r *api.Rule) { *r = bucket(r.Id); r.Rate = 1000001 }, "/rate", 2},
	{func(r *api.Rule) { *r = bucket(r.Id); r.Per = 0 }, "/per", 2},
	{func(r *api.Rule) { *r = bucket(r.Id); r.Burst = 0 }, "/burst", 2},
	{func(r *api.Rule) { *r = bucket(r.Id); r.Cost = 1001 }, "/cost", 2},
	{func(r *api.Rule) { *r = bucket(r.Id); r.Max = 1 }, "/max", 17},
	{func(r *api.Rule) { *r = limit(r.Id); r.Rate = 1 }, "/rate", 17},
	{func(r *api.Rule) { *r = limit(r.Id); r.Per = 1 }, "/per", 17},
	{func(r *api.Rule) { *r = limit(r.Id); r.Burst = -1 }, "/burst", 17},
	{func(r *api.Rule) { *r = limit(r.Id); r.Cost = 1 }, "/cost", 17},
	{func(r *api.Rule) { *r = limit(r.Id); r.Max = 0 }, "/max", 2},
	{func(r *api.Rule) { *r = limit(r.Id); r.Fails = 1 }, "/fails", 17},
	{func(r *api.Rule) { *r = limit(r.Id); r.Wait = 1 }, "/wait", 17},
	{func(r *api.Rule) { *r = limit(r.Id); r.Probes = 1 }, "/probes", 17},
	{func(r *api.Rule) { *r = breaker(r.Id); r.Fails = 0 }, "/fails", 2},
	{func(r *api.Rule) { *r = breaker(r.Id); r.Wait = 86400001 }, "/wait", 2},
	{func(r *api.Rule) { *r = breaker(r.Id); r.Probes = 101 }, "/probes", 2},
}

// fields are changes of one field each.
var fields = []func(r *api.Rule){
	func(r *api.Rule) { r.Id += "z" },
	func(r *api.Rule) { r.Note += "z" },
	func(r *api.Rule) { r.Route += "z" },
	func(r *api.Rule) { r.Priority++ },
	func(r *api.Rule) { r.Kind++ },
	func(r *api.Rule) { r.Rate++ },
	func(r *api.Rule) { r.Per++ },
	func(r *api.Rule) { r.Burst++ },
	func(r *api.Rule) { r.Cost++ },
	func(r *api.Rule) { r.Max++ },
	func(r *api.Rule) { r.Fails++ },
	func(r *api.Rule) { r.Wait++ },
	func(r *api.Rule) { r.Probes++ },
}

// valid is a rule with that id, of any kind, canonical or not.
func valid(r *rand.Rand, id string) api.Rule {
	var one api.Rule
	switch r.Intn(3) {
	case 0:
		one = bucket(id)
		one.Rate, one.Per, one.Cost = r.Intn(7), 1+r.Intn(7), r.Intn(3)
	case 1:
		one = limit(id)
		one.Max = 1 + r.Intn(3)
	default:
		one = breaker(id)
		one.Probes = r.Intn(3)
	}
	one.Priority = r.Intn(3)
	return one
}

// idAtRandom is one of a few, or of many.
func idAtRandom(r *rand.Rand) string {
	if r.Intn(2) == 0 {
		return string(rune('a' + r.Intn(26)))
	}
	id := []byte{byte('a' + r.Intn(26))}
	for range r.Intn(4) {
		id = append(id, "az09-_."[r.Intn(7)])
	}
	return string(id)
}

// setAtRandom is valid if its ids are different ones.
func setAtRandom(r *rand.Rand, size int) []api.Rule {
	var l []api.Rule
	for range size {
		l = append(l, valid(r, idAtRandom(r)))
	}
	return l
}

// distinct is l without the rules whose id an earlier one has.
func distinct(l []api.Rule) []api.Rule {
	var kept []api.Rule
	for _, r := range l {
		if _, ok := findOf(kept, r.Id); !ok {
			kept = append(kept, r)
		}
	}
	return kept
}

// many are so many rules, in their canonical form.
func many(size int) []api.Rule {
	l := make([]api.Rule, size)
	for i := range l {
		l[i] = limit(fmt.Sprintf("r%07d", i))
	}
	return l
}

// orders calls visit with each order of the rules.
func orders(l []api.Rule, from int, visit func(l []api.Rule)) {
	if from == len(l) {
		visit(l)
		return
	}
	for i := from; i < len(l); i++ {
		l[from], l[i] = l[i], l[from]
		orders(l, from+1, visit)
		l[from], l[i] = l[i], l[from]
	}
}

// P22.1

func TestCheckExamples(t *testing.T) {
	checkCheck(t, nil, "", api.OK)
	checkCheck(t, []api.Rule{}, "", api.OK)
	checkCheck(t, []api.Rule{bucket("a")}, "", api.OK)
	checkCheck(t, []api.Rule{bucket("b"), limit("a"), breaker("c")}, "", api.OK)
	wrong := limit("c")
	wrong.Route = "x"
	checkWrong(t, []api.Rule{limit("a"), wrong}, "/1/route", api.ErrRoute)
	checkWrong(t, limits("a", "a"), "/1/id", api.ErrTwice)
	checkWrong(t, limits("a", "b", "c", "a"), "/3/id", api.ErrTwice)
	checkWrong(t, limits("a", "b", "c", "c"), "/3/id", api.ErrTwice)
	checkWrong(t, make([]api.Rule, 1), "/0/id", api.ErrId)
	checkWrong(t, make([]api.Rule, 2), "/0/id", api.ErrId)
	checkWrong(t, []api.Rule{limit("a"), {}, {}}, "/1/id", api.ErrId)
	checkWrong(t, make([]api.Rule, 4096), "/0/id", api.ErrId)
	checkWrong(t, make([]api.Rule, 4097), "", api.ErrMany)
}

// TestCheckOfManyRules: that there are too many counts ahead of what is wrong with one of them.
func TestCheckOfManyRules(t *testing.T) {
	for size := range 300 {
		checkCheck(t, many(size), "", api.OK)
		checkIs(t, many(size), true)
	}
	for size := 4090; size <= 4100; size++ {
		l := many(size)
		path, e := "", api.OK
		if size > 4096 {
			e = api.ErrMany
		}
		checkCheck(t, l, path, e)
		for _, at := range []int{0, 1, 9, 10, 99, 100, 999, 1000, 2048, size - 2, size - 1} {
			l[at].Route = "x"
			path, e := fmt.Sprintf("/%d/route", at), api.ErrRoute
			if size > 4096 {
				path, e = "", api.ErrMany
			}
			checkWrong(t, l, path, e)
			l[at].Route = "/"
			if at > 0 {
				l[at].Id = l[at/2].Id
				if size <= 4096 {
					path, e = fmt.Sprintf("/%d/id", at), api.ErrTwice
				}
				checkWrong(t, l, path, e)
				l[at] = limit(fmt.Sprintf("r%07d", at))
			}
		}
	}
	for _, size := range []int{5000, 8192, 65536, 65537, 70000, 1 << 20} {
		checkWrong(t, many(size), "", api.ErrMany)
		checkWrong(t, make([]api.Rule, size), "", api.ErrMany)
	}
}

// TestCheckOfEachPlace: the path has the index of the rule, whatever is wrong with it; of the later places, some.
func TestCheckOfEachPlace(t *testing.T) {
	l := many(4096)
	for at := 1; at < len(l); at += 1 + at/100 {
		held := l[at]
		f := faults[at%len(faults)]
		f.spoil(&l[at])
		checkCheck(t, l, fmt.Sprintf("/%d%s", at, f.path), f.e)
		l[at] = held
		l[at].Id = l[(at*7+3)%at].Id
		checkCheck(t, l, fmt.Sprintf("/%d/id", at), api.ErrTwice)
		l[at].Id = l[at-1].Id
		checkCheck(t, l, fmt.Sprintf("/%d/id", at), api.ErrTwice)
		l[at] = held
	}
}

// TestCheckOfEachFault: alone, behind right rules, and before others.
func TestCheckOfEachFault(t *testing.T) {
	for _, f := range faults {
		for size := 1; size <= 5; size++ {
			for at := range size {
				l := limits("a", "b", "c", "d", "e")[:size]
				f.spoil(&l[at])
				checkWrong(t, l, fmt.Sprintf("/%d%s", at, f.path), f.e)
			}
		}
	}
}

// TestTheFirstWrongRuleCounts: of any two that are wrong, in whatever ways.
func TestTheFirstWrongRuleCounts(t *testing.T) {
	for _, f := range faults {
		for _, g := range faults {
			for second := 1; second <= 3; second++ {
				for first := range second {
					l := limits("a", "b", "c", "d")
					f.spoil(&l[first])
					g.spoil(&l[second])
					checkWrong(t, l, fmt.Sprintf("/%d%s", first, f.path), f.e)
				}
			}
		}
	}
}

// TestOfOneRuleItsFieldsCountAheadOfItsIdTwice, and a rule that is wrong counts ahead of a later one that has its id.
func TestOfOneRuleItsFieldsCountAheadOfItsIdTwice(t *testing.T) {
	for _, f := range faults {
		l := limits("a", "b", "a", "b")
		f.spoil(&l[2])
		checkWrong(t, l, "/2"+f.path, f.e)
		l = limits("a", "b", "a", "b")
		f.spoil(&l[3])
		checkWrong(t, l, "/2/id", api.ErrTwice)
		l = limits("a", "b", "a", "b")
		f.spoil(&l[0])
		checkWrong(t, l, "/0"+f.path, f.e)
		l = limits("a", "b", "c", "b")
		f.spoil(&l[2])
		checkWrong(t, l, "/2"+f.path, f.e)
	}
}

// TestIdsThatAreAlmostTheSame are different ones.
func TestIdsThatAreAlmostTheSame(t *testing.T) {
	long := strings.Repeat("a", 63)
	checkSet(t, limits("a", "aa", "a.", "a-", "a_", "a0", "aaa", "b", long, long+"a", long+"b", long[:62]))
	checkSet(t, limits(long+"a", long+"b", long+"a"))
	for a := range 256 {
		for b := range 256 {
			checkSet(t, limits("a"+string([]byte{byte(a)}), "a"+string([]byte{byte(b)})))
		}
	}
}

// TestRulesThatDifferButHaveOneId: an id counts, not the rest of a rule.
func TestRulesThatDifferButHaveOneId(t *testing.T) {
	checkWrong(t, []api.Rule{bucket("a"), limit("a")}, "/1/id", api.ErrTwice)
	checkWrong(t, []api.Rule{bucket("b"), breaker("a"), limit("a")}, "/2/id", api.ErrTwice)
	checkCheck(t, limits("a", "b"), "", api.OK)
	other := limit("a")
	other.Route = "/other"
	checkWrong(t, []api.Rule{limit("a"), other}, "/1/id", api.ErrTwice)
}

// TestCheckOfAllSmallSets: each rule has one of three ids or is wrong in one of several ways.
func TestCheckOfAllSmallSets(t *testing.T) {
	kinds := []api.Rule{limit("a"), bucket("b"), breaker("c"), {}, {Id: "a"}, {Id: "a", Route: "/"}, {Id: "b", Route: "/", Kind: api.KindCap}, {Id: "c", Route: "/", Kind: api.KindBucket, Rate: 2, Per: 4, Burst: 1}}
	for size := range 5 {
		all := 1
		for range size {
			all *= len(kinds)
		}
		for n := range all {
			var l []api.Rule
			for range size {
				l = append(l, kinds[n%len(kinds)])
				n /= len(kinds)
			}
			checkSet(t, l)
		}
	}
}

func TestCheckAtRandom(t *testing.T) {
	r := rand.New(rand.NewSource(1))
	for range 10000 {
		l := setAtRandom(r, r.Intn(12))
		checkSet(t, l)
		l = distinct(l)
		checkSet(t, l)
		if len(l) > 0 {
			faults[r.Intn(len(faults))].spoil(&l[r.Intn(len(l))])
			checkSet(t, l)
			l[r.Intn(len(l))].Id = l[r.Intn(len(l))].Id
			checkSet(t, l)
		}
	}
	for range 50 {
		checkSet(t, distinct(setAtRandom(r, r.Intn(400))))
	}
}

// P22.2

func TestCanonExamples(t *testing.T) {
	checkCanon(t, nil, nil)
	checkCanon(t, []api.Rule{}, nil)
	checkCanon(t, limits("b", "a"), limits("a", "b"))
	checkCanon(t, limits("a", "b"), limits("a", "b"))
	checkCanon(t, []api.Rule{breaker("c"), limit("a"), bucket("b")}, []api.Rule{limit("a"), bucket("b"), breaker("c")})
	rough := bucket("x")
	rough.Rate, rough.Per, rough.Cost = 10, 1000, 0
	smooth := bucket("x")
	smooth.Rate, smooth.Per, smooth.Cost = 1, 100, 1
	checkCanon(t, []api.Rule{rough}, []api.Rule{smooth})
	few := breaker("w")
	few.Probes = 0
	one := breaker("w")
	one.Probes = 1
	checkCanon(t, []api.Rule{rough, few}, []api.Rule{one, smooth})
}

// TestCanonOrdersBytewise: neither by length, nor by numbers, nor by the order of the kinds, routes or priorities.
func TestCanonOrdersBytewise(t *testing.T) {
	checkCanon(t, limits("b", "aa", "a", "ab", "a.b", "a-b", "a_b", "a0", "a9", "az", "a10", "a2"), limits("a", "a-b", "a.b", "a0", "a10", "a2", "a9", "a_b", "aa", "ab", "az", "b"))
	low, high := limit("b"), limit("a")
	low.Priority, high.Priority = 0, 1000
	low.Route, high.Route = "/", "/z/**"
	checkCanon(t, []api.Rule{low, high}, []api.Rule{high, low})
	low.Priority, high.Priority = 1000, 0
	low.Route, high.Route = "/z/**", "/"
	checkCanon(t, []api.Rule{low, high}, []api.Rule{high, low})
	letters := strings.Split("abcdefghijklmnopqrstuvwxyz", "")
	backward := slices.Clone(letters)
	slices.Reverse(backward)
	checkCanon(t, limits(backward...), limits(letters...))
	long := strings.Repeat("a", 63)
	checkCanon(t, limits(long+"b", long+"a", long, long[:62], long[:62]+"b"), limits(long[:62], long, long+"a", long+"b", long[:62]+"b"))
}

func TestCanonOfManyRules(t *testing.T) {
	r := rand.New(rand.NewSource(2))
	for _, size := range []int{1000, 4095, 4096} {
		l := many(size)
		backward := slices.Clone(l)
		slices.Reverse(backward)
		checkCanon(t, backward, l)
		checkIs(t, backward, false)
		r.Shuffle(size, func(i, j int) { backward[i], backward[j] = backward[j], backward[i] })
		checkCanon(t, backward, l)
		checkCanon(t, l, l)
	}
}

// TestCanonOfWrongSets: no rules, not even those before the wrong one.
func TestCanonOfWrongSets(t *testing.T) {
	r := rand.New(rand.NewSource(3))
	for range 5000 {
		l := distinct(setAtRandom(r, 1+r.Intn(10)))
		f, at := faults[r.Intn(len(faults))], r.Intn(len(l))
		f.spoil(&l[at])
		form, path, e := Canon(l)
		if len(form) != 0 || path != fmt.Sprintf("/%d%s", at, f.path) || e != f.e {
			t.Fatalf("Canon(%s) = %s, %q, %d", told(l), told(form), path, e)
		}
	}
}

// P22.3

func TestIsExamples(t *testing.T) {
	checkIs(t, nil, true)
	checkIs(t, []api.Rule{}, true)
	checkIs(t, limits("a"), true)
	checkIs(t, limits("a", "b"), true)
	checkIs(t, limits("b", "a"), false)
	checkIs(t, limits("a", "a"), false)
	checkIs(t, limits("a", "b", "d", "c"), false)
	checkIs(t, []api.Rule{bucket("a"), limit("b"), breaker("c")}, true)
	checkIs(t, make([]api.Rule, 1), false)
	checkIs(t, many(4096), true)
	checkIs(t, many(4097), false)
	checkIs(t, append([]api.Rule{{}}, limits("a")...), false)
}

// TestIsOfRulesThatAreNotCanonical: in each place, in each way.
func TestIsOfRulesThatAreNotCanonical(t *testing.T) {
	ways := []func(id string) api.Rule{
		func(id string) api.Rule { r := bucket(id); r.Rate, r.Per = 2, 4; return r },
		func(id string) api.Rule { r := bucket(id); r.Rate, r.Per = 0, 2; return r },
		func(id string) api.Rule { r := bucket(id); r.Rate, r.Per = 6, 3; return r },
		func(id string) api.Rule { r := bucket(id); r.Cost = 0; return r },
		func(id string) api.Rule { r := breaker(id); r.Probes = 0; return r },
	}
	for _, way := range ways {
		for size := 1; size <= 6; size++ {
			for at := range size {
				l := limits("a", "b", "c", "d", "e", "f")[:size]
				checkIs(t, l, true)
				l[at] = way(l[at].Id)
				checkIs(t, l, false)
				checkCheck(t, l, "", api.OK)
				form, _, _ := Canon(l)
				checkIs(t, form, true)
			}
		}
	}
}

// TestIsOfEachFault: what is not valid is not canonical.
func TestIsOfEachFault(t *testing.T) {
	for _, f := range faults {
		for at := range 4 {
			l := limits("a", "b", "c", "d")
			f.spoil(&l[at])
			checkIs(t, l, false)
		}
	}
}

// TestIsOfEachOrder: of all orders, only the ascending one.
func TestIsOfEachOrder(t *testing.T) {
	ascending := []api.Rule{bucket("a"), limit("b"), breaker("b-"), bucket("ba"), limit("c"), limit("d")}
	count := 0
	orders(slices.Clone(ascending), 0, func(l []api.Rule) {
		checkIs(t, l, slices.Equal(l, ascending))
		if Is(l) {
			count++
		}
	})
	if count != 1 {
		t.Fatalf("%d orders are canonical", count)
	}
}

func TestIsAtRandom(t *testing.T) {
	r := rand.New(rand.NewSource(4))
	for range 20000 {
		l := setAtRandom(r, r.Intn(4))
		checkIs(t, l, isOf(l))
		form, _, _ := Canon(distinct(l))
		checkIs(t, form, true)
		if len(form) > 0 {
			at := r.Intn(len(form))
			form[at] = valid(r, form[at].Id)
			checkIs(t, form, isOf(form))
		}
	}
}

// P22.4

func TestSameExamples(t *testing.T) {
	checkSame(t, nil, nil, true)
	checkSame(t, nil, []api.Rule{}, true)
	checkSame(t, []api.Rule{}, make([]api.Rule, 0, 5), true)
	checkSame(t, nil, make([]api.Rule, 1), false)
	checkSame(t, limits("a"), limits("a"), true)
	checkSame(t, limits("a"), limits("b"), false)
	checkSame(t, limits("a", "b"), limits("a", "b"), true)
	checkSame(t, limits("a", "b"), limits("b", "a"), false)
	checkSame(t, limits("a", "b"), limits("a"), false)
	checkSame(t, limits("a", "b"), limits("b"), false)
	checkSame(t, limits("a", "a"), limits("a"), false)
	checkSame(t, limits("a", "a", "b"), limits("a", "b", "b"), false)
	checkSame(t, make([]api.Rule, 3), make([]api.Rule, 3), true)
	checkSame(t, make([]api.Rule, 3), make([]api.Rule, 4), false)
	checkSame(t, []api.Rule{bucket("a")}, []api.Rule{limit("a")}, false)
}

// TestSameOfEachField: a set with another field in one rule is another one.
func TestSameOfEachField(t *testing.T) {
	for _, change := range fields {
		for size := 1; size <= 4; size++ {
			for at := range size {
				l := []api.Rule{bucket("a"), limit("b"), breaker("c"), {}}[:size]
				other := slices.Clone(l)
				checkSame(t, l, other, true)
				change(&other[at])
				checkSame(t, l, other, false)
				change(&l[at])
				checkSame(t, l, other, true)
			}
		}
	}
}

// TestSameTellsFormsApart: neither a set that is not valid nor one with the same canonical form is looked at otherwise.
func TestSameTellsFormsApart(t *testing.T) {
	rough := bucket("a")
	rough.Rate, rough.Per = 2, 200
	checkSame(t, []api.Rule{rough}, []api.Rule{bucket("a")}, false)
	free := bucket("a")
	free.Cost = 0
	one := bucket("a")
	one.Cost = 1
	checkSame(t, []api.Rule{free}, []api.Rule{one}, false)
	for _, f := range faults {
		wrong := limit("a")
		f.spoil(&wrong)
		checkSame(t, []api.Rule{wrong}, []api.Rule{wrong}, true)
		checkSame(t, []api.Rule{wrong}, limits("a"), false)
		checkSame(t, []api.Rule{wrong}, nil, false)
	}
	checkSame(t, limits("\xff"), limits("\xfe"), false)
	checkSame(t, limits("\xff"), limits("\ufffd"), false)
	checkSame(t, limits("a", "a"), limits("a", "a"), true)
	checkSame(t, many(5000), many(5000), true)
	checkSame(t, many(5000), many(5001), false)
}

func TestSameAtRandom(t *testing.T) {
	r := rand.New(rand.NewSource(5))
	for range 20000 {
		a := setAtRandom(r, r.Intn(4))
		b := setAtRandom(r, r.Intn(4))
		if r.Intn(2) == 0 {
			b = slices.Clone(a)
		}
		if len(b) > 0 && r.Intn(2) == 0 {
			fields[r.Intn(len(fields))](&b[r.Intn(len(b))])
		}
		checkSame(t, a, b, sameOf(a, b))
		checkSame(t, a, slices.Clone(a), true)
	}
}

// P22.5

func TestFindExamples(t *testing.T) {
	checkFind(t, nil, "a", -1)
	checkFind(t, nil, "", -1)
	checkFind(t, []api.Rule{}, "a", -1)
	checkFind(t, limits("a"), "a", 0)
	checkFind(t, limits("a"), "b", -1)
	checkFind(t, limits("a"), "", -1)
	checkFind(t, limits("a", "b", "c"), "a", 0)
	checkFind(t, limits("a", "b", "c"), "b", 1)
	checkFind(t, limits("a", "b", "c"), "c", 2)
	checkFind(t, limits("a", "b", "c"), "d", -1)
	checkFind(t, limits("c", "b", "a"), "a", 2)
	checkFind(t, limits("b", "a", "a", "b"), "a", 1)
	checkFind(t, limits("b", "a", "a", "b"), "b", 0)
	checkFind(t, make([]api.Rule, 3), "", 0)
	checkFind(t, limits("a", "", ""), "", 1)
	checkFind(t, limits("aa", "a", "ab"), "a", 1)
	checkFind(t, limits("A", "\xff", "a b"), "\xff", 1)
	checkFind(t, limits("A", "\xff", "a b"), "a", -1)
	checkFind(t, limits("\xff"), "\ufffd", -1)
}

// TestFindOfEachRule: in sets of any number of rules, in whatever order.
func TestFindOfEachRule(t *testing.T) {
	for size := range 40 {
		l := many(size)
		for range 2 {
			for i, r := range l {
				checkFind(t, l, strings.Clone(r.Id), i)
				checkFind(t, l, r.Id+"z", -1)
				checkFind(t, l, r.Id[:len(r.Id)-1], -1)
				checkFind(t, l[:i], r.Id, -1)
			}
			slices.Reverse(l)
		}
		checkFind(t, l, "a", -1)
		checkFind(t, l, "z", -1)
	}
	l := many(5000)
	for i, r := range l {
		checkFind(t, l, r.Id, i)
	}
}

// TestFindLooksAtIdsAlone, not at notes or routes, and not at whether a rule is right.
func TestFindLooksAtIdsAlone(t *testing.T) {
	l := []api.Rule{{Note: "a", Route: "a"}, {Id: "b", Note: "a", Route: "/a"}, {Id: "a"}, limit("a")}
	checkFind(t, l, "a", 2)
	checkFind(t, l, "", 0)
	for _, f := range faults {
		wrong := limit("a")
		f.spoil(&wrong)
		checkFind(t, []api.Rule{limit("b"), wrong, limit("c")}, wrong.Id, 1)
		checkFind(t, []api.Rule{wrong, limit("b"), limit("c")}, "c", 2)
	}
}

// TestFindOfAllSmallSets, most of which have an id more than once.
func TestFindOfAllSmallSets(t *testing.T) {
	ids := []string{"", "a", "b", "ab"}
	for size := range 6 {
		all := 1 << (2 * size)
		for n := range all {
			var l []api.Rule
			for i := range size {
				l = append(l, limit(ids[n>>(2*i)&3]))
			}
			for _, id := range append(ids, "c") {
				want, _ := findOf(l, id)
				checkFind(t, l, id, want)
			}
		}
	}
}

func TestFindAtRandom(t *testing.T) {
	r := rand.New(rand.NewSource(6))
	for range 30000 {
		l := setAtRandom(r, r.Intn(30))
		id := idAtRandom(r)
		want, ok := findOf(l, id)
		if ok != (want >= 0) {
			t.Fatal("the oracle is wrong")
		}
		checkFind(t, l, id, want)
	}
}

// P22.6

func TestCanonicalFormsAreTheirOwn(t *testing.T) {
	r := rand.New(rand.NewSource(7))
	for range 10000 {
		l := distinct(setAtRandom(r, r.Intn(20)))
		form, path, e := Canon(l)
		if path != "" || e != api.OK || len(form) != len(l) {
			t.Fatalf("Canon(%s) = %s, %q, %d", told(l), told(form), path, e)
		}
		checkCanon(t, form, form)
		checkIs(t, form, true)
		for i := range form {
			if i > 0 && form[i-1].Id >= form[i].Id {
				t.Fatalf("Canon(%s) = %s: not ascending at %d", told(l), told(form), i)
			}
			at, ok := Find(l, form[i].Id)
			if !ok {
				t.Fatalf("Canon(%s) = %s: an id that was not there", told(l), told(form))
			}
			if one, _, _ := rule.Canon(l[at]); one != form[i] {
				t.Fatalf("Canon(%s) = %s: another rule at %d", told(l), told(form), i)
			}
		}
	}
}

// TestTheFormDoesNotDependOnTheOrder: all orders of a few rules, and some of more.
func TestTheFormDoesNotDependOnTheOrder(t *testing.T) {
	r := rand.New(rand.NewSource(8))
	for size := range 7 {
		for range 5 {
			l := distinct(setAtRandom(r, size))
			form, _, _ := Canon(l)
			orders(l, 0, func(l []api.Rule) { checkCanon(t, l, form) })
		}
	}
	for range 300 {
		l := distinct(setAtRandom(r, 200))
		form, _, _ := Canon(l)
		for range 3 {
			r.Shuffle(len(l), func(i, j int) { l[i], l[j] = l[j], l[i] })
			checkCanon(t, l, form)
		}
	}
}

// R1, R3 and R4

// checkEnds fails if a call takes too long.
func checkEnds(t *testing.T, what string, call func()) {
	t.Helper()
	done := make(chan bool)
	go func() {
		call()
		close(done)
	}()
	select {
	case <-done:
	case <-time.After(20 * time.Second):
		t.Fatalf("%s does not end", what)
	}
}

func TestGreatArgumentsEnd(t *testing.T) {
	huge := make([]api.Rule, 1<<21)
	for i := range huge {
		huge[i].Id = "a"
	}
	full, other := many(4096), many(4096)
	long := strings.Repeat("a", 1<<26)
	checkEnds(t, "a call with many rules", func() {
		if path, e := Check(huge); path != "" || e != api.ErrMany {
			t.Errorf("Check: %q, %d", path, e)
		}
		if l, path, e := Canon(huge); len(l) != 0 || path != "" || e != api.ErrMany {
			t.Errorf("Canon: %q, %d", path, e)
		}
		if Is(huge) || !Same(huge, huge) || Same(huge, huge[1:]) {
			t.Error("Is or Same of many rules")
		}
		if at, ok := Find(huge, "b"); at != -1 || ok {
			t.Errorf("Find: %d, %t", at, ok)
		}
		if at, ok := Find(huge, "a"); at != 0 || !ok {
			t.Errorf("Find: %d, %t", at, ok)
		}
		for range 100 {
			if !Is(full) || !Same(full, other) {
				t.Error("Is or Same of a full set")
			}
		}
		for range 1000 {
			l := []api.Rule{limit(long), limit("b")}
			if path, e := Check(l); path != "/0/id" || e != api.ErrId {
				t.Errorf("Check: %q, %d", path, e)
			}
			if at, ok := Find(l, long[1:]); at != -1 || ok {
				t.Errorf("Find: %d, %t", at, ok)
			}
		}
	})
}

func TestNumbersAtTheLimitsEnd(t *testing.T) {
	for _, n := range []int{math.MinInt, math.MinInt + 1, -1, 0, 1, math.MaxInt} {
		for kind := -1; kind <= 4; kind++ {
			one := api.Rule{Id: "a", Route: "/", Priority: n, Kind: kind, Rate: n, Per: n, Burst: n, Cost: n, Max: n, Fails: n, Wait: n, Probes: n}
			checkSet(t, []api.Rule{one})
			checkSet(t, []api.Rule{limit("b"), one})
			one.Priority = 0
			checkSet(t, []api.Rule{one, one})
			one.Kind = n
			checkSet(t, []api.Rule{one})
		}
	}
}

// inside tells whether s lies in the memory of all.
func inside(s, all string) bool {
	at, from := uintptr(unsafe.Pointer(unsafe.StringData(s))), uintptr(unsafe.Pointer(unsafe.StringData(all)))
	return s != "" && at >= from && at < from+uintptr(len(all))
}

// TestCanonicalFormsAreNewMemory: neither the list nor a string in it is that of the argument.
func TestCanonicalFormsAreNewMemory(t *testing.T) {
	r := rand.New(rand.NewSource(9))
	for i := range 3000 {
		l := distinct(setAtRandom(r, r.Intn(6)))
		if i%2 == 0 {
			l, _, _ = Canon(l) // what is canonical already is copied too
		}
		all := ""
		for _, r := range l {
			all += r.Id + r.Note + r.Route
		}
		left := all
		piece := func(s string) string {
			s, left = left[:len(s)], left[len(s):]
			return s
		}
		for i := range l {
			l[i].Id, l[i].Note, l[i].Route = piece(l[i].Id), piece(l[i].Note), piece(l[i].Route)
		}
		form, _, _ := Canon(l)
		for _, r := range form {
			if inside(r.Id, all) || inside(r.Note, all) || inside(r.Route, all) {
				t.Fatalf("Canon(%s) shares a string", told(l))
			}
		}
		held := slices.Clone(l)
		for i := range form {
			form[i] = api.Rule{Id: "changed"}
		}
		if !slices.Equal(l, held) {
			t.Fatalf("Canon(%s) shares the list", told(held))
		}
	}
}

// TestArgumentsStayAsTheyWere: the rules, their order, and what lies behind the end of the list.
func TestArgumentsStayAsTheyWere(t *testing.T) {
	r := rand.New(rand.NewSource(10))
	for range 5000 {
		room := setAtRandom(r, r.Intn(12))
		l := room[:r.Intn(len(room)+1)]
		if kept := distinct(l); r.Intn(2) == 0 {
			copy(l, kept)
			l = l[:len(kept)]
		}
		held := slices.Clone(room)
		form, path, e := Canon(l)
		at, wrong := Check(l)
		is := Is(l)
		Find(l, "a")
		Same(l, room)
		for i := range form {
			form[i].Id += "z"
		}
		_ = append(form, api.Rule{Id: "behind"})
		if !slices.Equal(room, held) {
			t.Fatalf("%s has become %s", told(held), told(room))
		}
		clear(room)
		want, wantPath, wantE := canonOf(held[:len(l)])
		for i := range want {
			want[i].Id += "z"
		}
		if !slices.Equal(form, want) || path != wantPath || e != wantE || at != wantPath || wrong != wantE || is != isOf(held[:len(l)]) {
			t.Fatalf("of %s: %s, %q, %d; %q, %d; %t", told(held[:len(l)]), told(form), path, e, at, wrong, is)
		}
	}
}

// TestStringsStayAsTheyWere: though the bytes of the argument become others.
func TestStringsStayAsTheyWere(t *testing.T) {
	for _, ids := range [][]string{{"bc", "ab"}, {"ab", "bc"}, {"ab", "ab"}, {"ab", "BC"}, {"a", "b"}} {
		first, second := []byte(ids[0]), []byte(ids[1])
		l := []api.Rule{limit(unsafe.String(&first[0], len(first))), limit(unsafe.String(&second[0], len(second)))}
		form, path, e := Canon(l)
		at, wrong := Check(l)
		clear(first)
		clear(second)
		want, wantPath, wantE := canonOf(limits(ids...))
		if !slices.Equal(form, want) || path != wantPath || e != wantE || at != wantPath || wrong != wantE {
			t.Fatalf("of %q: %s, %q, %d; %q, %d", ids, told(form), path, e, at, wrong)
		}
	}
}

// TestSameAnswerEachTime: whatever is called in between, also at the same time.
func TestSameAnswerEachTime(t *testing.T) {
	shared := distinct(setAtRandom(rand.New(rand.NewSource(11)), 50))
	sharedForm, _, _ := canonOf(shared)
	done := make(chan bool)
	for worker := range 8 {
		go func() {
			defer func() { done <- true }()
			r := rand.New(rand.NewSource(int64(worker)))
			for range 1500 {
				l := setAtRandom(r, r.Intn(10))
				if r.Intn(2) == 0 {
					l = distinct(l)
				}
				want, path, e := canonOf(l)
				form, got, wrong := Canon(l)
				if !slices.Equal(form, want) || got != path || wrong != e || Is(l) != isOf(l) {
					t.Errorf("of %s: %s, %q, %d", told(l), told(form), got, wrong)
					return
				}
				if form, _, e := Canon(shared); e != api.OK || !slices.Equal(form, sharedForm) {
					t.Errorf("of %s: %s, %d", told(shared), told(form), e)
					return
				}
				id := idAtRandom(r)
				at, _ := findOf(l, id)
				if got, ok := Find(l, id); got != at || ok != (at >= 0) {
					t.Errorf("Find(%s, %q) = %d, %t", told(l), id, got, ok)
					return
				}
			}
		}()
	}
	for range 8 {
		<-done
	}
}
