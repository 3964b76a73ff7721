package rule

import (
	"math"
	"math/big"
	"math/rand"
	"regexp"
	"strings"
	"testing"
	"time"
	"unicode/utf8"
	"unsafe"

	"stoplog/api"
)

// What the functions must answer, by the chapter's own words.

var (
	ids      = regexp.MustCompile(`\A[a-z][a-z0-9_.-]{0,63}\z`)
	patterns = regexp.MustCompile(`\A(/|(/([a-zA-Z0-9_.~%-]+|\*)){0,31}/([a-zA-Z0-9_.~%-]+|\*\*?))\z`)
)

// bounds are the path of a number, the kind whose rules have it, and the least and the greatest one.
type bounds struct {
	path   string
	kind   int
	lo, hi int
	of     func(r *api.Rule) *int
}

var numbers = []bounds{
	{"/rate", 1, 0, 1000000, func(r *api.Rule) *int { return &r.Rate }},
	{"/per", 1, 1, 86400000, func(r *api.Rule) *int { return &r.Per }},
	{"/burst", 1, 1, 1000000, func(r *api.Rule) *int { return &r.Burst }},
	{"/cost", 1, 0, 1000, func(r *api.Rule) *int { return &r.Cost }},
	{"/max", 2, 1, 1000000, func(r *api.Rule) *int { return &r.Max }},
	{"/fails", 3, 1, 1000, func(r *api.Rule) *int { return &r.Fails }},
	{"/wait", 3, 1, 86400000, func(r *api.Rule) *int { return &r.Wait }},
	{"/probes", 3, 0, 100, func(r *api.Rule) *int { return &r.Probes }},
}

// checkOf looks at one field after the other.
func checkOf(r api.Rule) (string, api.Errno) {
	if !ids.MatchString(r.Id) {
		return "/id", 13
	}
	if len(r.Note) >= 256 {
		return "/note", 5
	}
	if !utf8.ValidString(r.Note) {
		return "/note", 8
	}
	if len(r.Route) > 255 || !patterns.MatchString(r.Route) {
		return "/route", 14
	}
	if r.Priority < 0 || r.Priority > 1000 {
		return "/priority", 2
	}
	if r.Kind != 1 && r.Kind != 2 && r.Kind != 3 {
		return "/kind", 15
	}
	for _, b := range numbers {
		n := *b.of(&r)
		if b.kind != r.Kind {
			if n != 0 {
				return b.path, 17
			}
		} else if n < b.lo || b.hi < n {
			return b.path, 2
		}
	}
	return "", 0
}

// canonOf divides by the greatest common divisor in numbers without a limit.
func canonOf(r api.Rule) (api.Rule, string, api.Errno) {
	path, e := checkOf(r)
	if e != 0 {
		return api.Rule{}, path, e
	}
	if r.Kind == 1 {
		by := int(new(big.Int).GCD(nil, nil, big.NewInt(int64(r.Rate)), big.NewInt(int64(r.Per))).Int64())
		r.Rate /= by
		r.Per /= by
		if r.Cost == 0 {
			r.Cost = 1
		}
	}
	if r.Kind == 3 && r.Probes == 0 {
		r.Probes = 1
	}
	return r, "", 0
}

func kindOf(k int) string {
	switch k {
	case 1:
		return "bucket"
	case 2:
		return "cap"
	case 3:
		return "breaker"
	}
	return ""
}

func numberOf(s string) int {
	switch s {
	case "bucket":
		return 1
	case "cap":
		return 2
	case "breaker":
		return 3
	}
	return 0
}

// Checks of one call each.

func checkCheck(t *testing.T, r api.Rule, path string, wrong api.Errno) {
	t.Helper()
	if got, e := Check(r); got != path || e != wrong {
		t.Fatalf("Check(%+v) = %q, %d, want %q, %d", r, got, e, path, wrong)
	}
}

func checkCanon(t *testing.T, r, want api.Rule) {
	t.Helper()
	if got, path, e := Canon(r); got != want || path != "" || e != 0 {
		t.Fatalf("Canon(%+v) = %+v, %q, %d, want %+v", r, got, path, e, want)
	}
}

// checkWrong sees that r has neither a canonical form nor another fault.
func checkWrong(t *testing.T, r api.Rule, path string, wrong api.Errno) {
	t.Helper()
	checkCheck(t, r, path, wrong)
	if got, at, e := Canon(r); got != (api.Rule{}) || at != path || e != wrong {
		t.Fatalf("Canon(%+v) = %+v, %q, %d, want %q, %d", r, got, at, e, path, wrong)
	}
}

// checkRule holds Check and Canon against the oracles, and what is canonical against P21.4.
func checkRule(t *testing.T, r api.Rule) {
	t.Helper()
	want, path, e := canonOf(r)
	if e != 0 {
		checkWrong(t, r, path, e)
		return
	}
	checkCheck(t, r, "", 0)
	checkCanon(t, r, want)
	checkCheck(t, want, "", 0)
	checkCanon(t, want, want)
	if r.Rate*want.Per != want.Rate*r.Per {
		t.Fatalf("%+v has another rate than %+v", want, r)
	}
}

func checkKind(t *testing.T, k int, want string) {
	t.Helper()
	if got := Kind(k); got != want {
		t.Fatalf("Kind(%d) = %q, want %q", k, got, want)
	}
}

func checkKindOf(t *testing.T, s string, want int) {
	t.Helper()
	if got := KindOf(s); got != want {
		t.Fatalf("KindOf(%q) = %d, want %d", s, got, want)
	}
}

// What is tried.

func bucket() api.Rule {
	return api.Rule{Id: "a", Route: "/", Kind: 1, Rate: 10, Per: 1000, Burst: 5, Cost: 2}
}

func limit() api.Rule {
	return api.Rule{Id: "b-1", Note: "a note", Route: "/a/*", Priority: 7, Kind: 2, Max: 3}
}

func breaker() api.Rule {
	return api.Rule{Id: "c", Note: "\u00e9", Route: "/**", Priority: 1000, Kind: 3, Fails: 5, Wait: 60000, Probes: 2}
}

// valid is one rule of each kind.
func valid() []api.Rule {
	return []api.Rule{bucket(), limit(), breaker()}
}

// about are the numbers that lie about those that count, with either sign, and those that would be one of them in fewer bits.
func about(list ...int) []int {
	var all []int
	for _, n := range append(list, 0, 100, 1000, 1000000, 86400000, 1<<31, 1<<32) {
		for off := -3; off <= 3; off++ {
			all = append(all, n+off, -n+off)
		}
	}
	for shift := range 64 {
		for off := -1; off <= 4; off++ {
			all = append(all, 1<<shift+off, -1<<shift+off)
		}
	}
	return append(all, math.MinInt, math.MaxInt)
}

// noKinds are numbers without a kind.
func noKinds() []int {
	var list []int
	for k := range 70000 {
		list = append(list, k+4, -k)
	}
	for _, k := range about() {
		if kindOf(k) == "" {
			list = append(list, k)
		}
	}
	return list
}

// wrongIds, wrongRoutes and wrongNotes are strings that may not stand there.
var (
	wrongIds    = []string{"", "A", "1", "1a", "-", "_a", ".a", " a", "a ", "aB", "a/b", "a\n", "\na", "a\x00", "\u00e9", "a\u00e9", "a\xff", "a~", "a%", "a*", strings.Repeat("a", 65), strings.Repeat("a", 66), strings.Repeat("a", 1000)}
	wrongRoutes = []string{"", "a", "a/b", " /", "/ ", "//", "/a/", "//a", "/a//b", "/***", "/a/***", "/**/a", "/**/**", "/**/", "/*a", "/a*", "/a**", "/a?b", "/a b", "/\u00e9", "/\xff", "/a\n", "/a\x00", "*", "**", "/a:b", strings.Repeat("/a", 33), strings.Repeat("/a", 32) + "/**", "/" + strings.Repeat("a", 255)}
	rightRoutes = []string{"/", "/a", "/A/b", "/*", "/**", "/*/*", "/*/**", "/a/*/**", "/a/**", "/a-1_b.c~d%20", "/.", "/..", "/0", strings.Repeat("/a", 32), strings.Repeat("/*", 32), strings.Repeat("/a", 31) + "/**", "/" + strings.Repeat("a", 254), "/" + strings.Repeat("a", 251) + "/**"}
	noTexts     = []string{"\xff", "\x80", "a\xc3", "\xe2\x82", "\xc0\x80", "\xed\xa0\x80", "\xed\xbf\xbf", "\xf4\x90\x80\x80", "\xf8\x88\x80\x80\x80", "ab\xe2\x82\xacc\xbf", "\xf0\x80\x80\x80", strings.Repeat("a", 254) + "\xc3"}
	rightNotes  = []string{"", "a", "\x00", "\n\t\"\\", "\u00e9", "\u20ac", "\U0010ffff", "\ud7ff\ue000", "\ufffd", strings.Repeat("a", 255), strings.Repeat("\u20ac", 85), "a" + strings.Repeat("\u00e9", 127), "abc" + strings.Repeat("\U0001f600", 63)}
)

// spoil sets the field, counted in the order in which they are checked, to one that is wrong in a rule of any kind.
func spoil(r *api.Rule, field, how int) {
	switch field {
	case 0:
		r.Id = wrongIds[how%len(wrongIds)]
	case 1:
		if r.Note = strings.Repeat("\u00e9", 128+how); how%2 == 0 {
			r.Note = noTexts[how%len(noTexts)]
		}
	case 2:
		r.Route = wrongRoutes[how%len(wrongRoutes)]
	case 3:
		r.Priority = []int{-1, 1001, math.MinInt, math.MaxInt}[how%4]
	case 4:
		r.Kind = []int{0, 4, -1, math.MaxInt}[how%4]
	default:
		b := numbers[field-5]
		*b.of(r) = []int{-1, b.hi + 1, math.MinInt, math.MaxInt}[how%4]
	}
}

// ruleAtRandom is a valid one of any kind.
func ruleAtRandom(r *rand.Rand) api.Rule {
	rule := valid()[r.Intn(3)]
	rule.Id = "abcxyz"[r.Intn(6):][:1] + strings.Repeat("a.-_9z"[r.Intn(6):][:1], r.Intn(64))
	rule.Note = rightNotes[r.Intn(len(rightNotes))]
	rule.Route = rightRoutes[r.Intn(len(rightRoutes))]
	rule.Priority = r.Intn(1001)
	for _, b := range numbers {
		if b.kind == rule.Kind {
			most := b.hi
			if r.Intn(2) == 0 {
				most = min(b.hi, 1<<r.Intn(27))
			}
			*b.of(&rule) = b.lo + r.Intn(most-b.lo+1)
		}
	}
	return rule
}

// P21.1

func TestCheckExamples(t *testing.T) {
	for _, r := range valid() {
		checkCheck(t, r, "", api.OK)
	}
	checkCheck(t, api.Rule{Id: "a", Route: "/", Kind: api.KindBucket, Per: 1, Burst: 1}, "", api.OK)
	checkCheck(t, api.Rule{Id: "a", Route: "/", Kind: api.KindCap, Max: 1}, "", api.OK)
	checkCheck(t, api.Rule{Id: "a", Route: "/", Kind: api.KindBreaker, Fails: 1, Wait: 1}, "", api.OK)
	r := breaker()
	r.Wait = 0
	checkWrong(t, r, "/wait", api.ErrRange)
	r.Rate = 1
	checkWrong(t, r, "/rate", api.ErrUnknown)
	r = limit()
	r.Burst = 1
	checkWrong(t, r, "/burst", api.ErrUnknown)
	checkWrong(t, api.Rule{}, "/id", api.ErrId)
	checkWrong(t, api.Rule{Id: "a"}, "/route", api.ErrRoute)
	checkWrong(t, api.Rule{Id: "a", Route: "/"}, "/kind", api.ErrKind)
	checkWrong(t, api.Rule{Id: "a", Route: "/", Kind: api.KindBucket}, "/per", api.ErrRange)
	checkWrong(t, api.Rule{Id: "a", Route: "/", Kind: api.KindBucket, Per: 1}, "/burst", api.ErrRange)
	checkWrong(t, api.Rule{Id: "a", Route: "/", Kind: api.KindCap}, "/max", api.ErrRange)
	checkWrong(t, api.Rule{Id: "a", Route: "/", Kind: api.KindBreaker}, "/fails", api.ErrRange)
	checkWrong(t, api.Rule{Id: "a", Route: "/", Kind: api.KindBreaker, Fails: 1}, "/wait", api.ErrRange)
}

func TestCheckOfIds(t *testing.T) {
	for _, r := range valid() {
		for _, r.Id = range wrongIds {
			checkWrong(t, r, "/id", api.ErrId)
		}
		for size := range 200 {
			r.Id = strings.Repeat("a", size)
			checkRule(t, r)
		}
		for b := range 256 {
			for _, s := range []string{"", "a", "a.b-c_9", strings.Repeat("z", 63)} {
				r.Id = s + string([]byte{byte(b)})
				checkRule(t, r)
				r.Id = string([]byte{byte(b)}) + s
				checkRule(t, r)
			}
		}
	}
}

func TestCheckOfNotes(t *testing.T) {
	for _, r := range valid() {
		for _, r.Note = range rightNotes {
			checkRule(t, r)
			checkCheck(t, r, "", api.OK)
		}
		for _, r.Note = range noTexts {
			checkWrong(t, r, "/note", api.ErrText)
		}
		for _, s := range []string{"a", "\x00", "\u00e9", "\u20ac", "\U0001f600", "\xff", "a\x80"} {
			for size := range 300 {
				r.Note = strings.Repeat(s, size)
				checkRule(t, r)
			}
		}
	}
}

// TestLongNotesThatAreNoTexts: that a note is too long counts ahead of what its bytes are, wherever they are wrong.
func TestLongNotesThatAreNoTexts(t *testing.T) {
	for _, r := range valid() {
		for at := range 255 {
			r.Note = strings.Repeat("a", at) + "\xff" + strings.Repeat("a", 254-at)
			checkWrong(t, r, "/note", api.ErrText)
			r.Note += "a"
			checkWrong(t, r, "/note", api.ErrLong)
		}
		r.Note = strings.Repeat("a", 254) + "\u00e9"
		checkWrong(t, r, "/note", api.ErrLong)
		r.Note = r.Note[:255]
		checkWrong(t, r, "/note", api.ErrText)
	}
}

func TestNotesOfAllBytes(t *testing.T) {
	r := limit()
	for a := range 256 {
		for b := range 256 {
			r.Note = string([]byte{byte(a), byte(b)})
			checkRule(t, r)
			r.Note = "\xe2" + r.Note + "a"
			checkRule(t, r)
		}
	}
}

func TestCheckOfRoutes(t *testing.T) {
	for _, r := range valid() {
		for _, r.Route = range rightRoutes {
			checkRule(t, r)
			checkCheck(t, r, "", api.OK)
		}
		for _, r.Route = range wrongRoutes {
			checkWrong(t, r, "/route", api.ErrRoute)
		}
		for size := range 300 {
			r.Route = "/" + strings.Repeat("a", size)
			checkRule(t, r)
			r.Route = strings.Repeat("/b", size)
			checkRule(t, r)
			r.Route = strings.Repeat("/*", size) + "/**"
			checkRule(t, r)
		}
		for b := range 256 {
			for _, s := range []string{"", "/", "/a", "/*", "/a/b"} {
				r.Route = s + string([]byte{byte(b)})
				checkRule(t, r)
				r.Route = s + string([]byte{'/', byte(b)}) + s
				checkRule(t, r)
			}
		}
	}
}

func TestCheckOfPriorities(t *testing.T) {
	for _, r := range valid() {
		for n := range 70000 {
			r.Priority = n
			checkRule(t, r)
			r.Priority = -n
			checkRule(t, r)
		}
		for _, r.Priority = range about() {
			checkRule(t, r)
		}
	}
}

// TestCheckOfKinds: whether a kind is wrong counts ahead of all numbers.
func TestCheckOfKinds(t *testing.T) {
	all := append(valid(), api.Rule{Id: "a", Route: "/"}, api.Rule{Id: "a", Route: "/", Rate: -1, Per: -1, Burst: -1, Cost: -1, Max: -1, Fails: -1, Wait: -1, Probes: -1})
	for _, r := range all {
		for _, r.Kind = range noKinds() {
			checkWrong(t, r, "/kind", api.ErrKind)
		}
		for k := -10; k <= 10; k++ {
			r.Kind = k
			checkRule(t, r)
		}
	}
}

// TestCheckOfNumbersAboutTheLimits: of each field in a rule of each kind.
func TestCheckOfNumbersAboutTheLimits(t *testing.T) {
	for _, b := range numbers {
		for _, r := range valid() {
			for _, n := range about(b.lo, b.hi) {
				*b.of(&r) = n
				checkRule(t, r)
				switch {
				case r.Kind != b.kind && n != 0:
					checkWrong(t, r, b.path, api.ErrUnknown)
				case r.Kind == b.kind && (n < b.lo || n > b.hi):
					checkWrong(t, r, b.path, api.ErrRange)
				default:
					checkCheck(t, r, "", api.OK)
				}
			}
		}
	}
}

// TestCheckOfEachNumber: all from the least to the greatest one, but those of great ranges in steps.
func TestCheckOfEachNumber(t *testing.T) {
	for _, b := range numbers {
		for _, r := range valid() {
			for n := -1000; n <= b.hi+1000; n += 1 + b.hi/200000 {
				*b.of(&r) = n
				path, wrong := "", api.OK
				if r.Kind != b.kind && n != 0 {
					path, wrong = b.path, api.ErrUnknown
				} else if r.Kind == b.kind && (n < b.lo || n > b.hi) {
					path, wrong = b.path, api.ErrRange
				}
				checkCheck(t, r, path, wrong)
			}
		}
	}
}

// TestTheFirstWrongFieldCounts: of any of the fields, of which each one is wrong in several ways.
func TestTheFirstWrongFieldCounts(t *testing.T) {
	for _, first := range valid() {
		for set := range 1 << 13 {
			for how := range 4 {
				r := first
				for field := range 13 {
					if set>>field&1 == 1 {
						spoil(&r, field, how+field)
					}
				}
				checkRule(t, r)
			}
		}
	}
}

// TestOfTwoWrongFieldsTheFirstCounts, whatever is wrong with them.
func TestOfTwoWrongFieldsTheFirstCounts(t *testing.T) {
	for _, first := range valid() {
		for a := range 13 {
			for b := range 13 {
				for how := range 36 {
					r := first
					spoil(&r, a, how)
					spoil(&r, b, how/6)
					checkRule(t, r)
				}
			}
		}
	}
}

// TestFieldsThatAreZero: any of the fields is left out, in rules of any kind.
func TestFieldsThatAreZero(t *testing.T) {
	for kind := -1; kind <= 5; kind++ {
		for set := range 1 << 8 {
			for n := 1; n <= 2; n++ {
				r := api.Rule{Id: "a", Route: "/", Kind: kind}
				for i, b := range numbers {
					if set>>i&1 == 1 {
						*b.of(&r) = n
					}
				}
				checkRule(t, r)
			}
		}
	}
}

func TestCheckAtRandom(t *testing.T) {
	r := rand.New(rand.NewSource(1))
	for range 70000 {
		rule := ruleAtRandom(r)
		checkRule(t, rule)
		for range 1 + r.Intn(3) {
			spoil(&rule, r.Intn(13), r.Intn(1000))
			checkRule(t, rule)
		}
		rule = ruleAtRandom(r)
		*numbers[r.Intn(8)].of(&rule) = int(r.Uint64()) >> r.Intn(64)
		checkRule(t, rule)
	}
}

// P21.2

func TestCanonExamples(t *testing.T) {
	checkCanon(t, api.Rule{Id: "a", Route: "/", Kind: api.KindBucket, Per: 60, Burst: 1}, api.Rule{Id: "a", Route: "/", Kind: api.KindBucket, Per: 1, Burst: 1, Cost: 1})
	r := bucket()
	r.Rate, r.Per = 1, 100
	checkCanon(t, bucket(), r)
	r.Rate, r.Per = 3, 2000
	checkCanon(t, r, r)
	r.Cost = 0
	want := r
	want.Cost = 1
	checkCanon(t, r, want)
	checkCanon(t, limit(), limit())
	checkCanon(t, breaker(), breaker())
	checkCanon(t, api.Rule{Id: "a", Route: "/", Kind: api.KindCap, Max: 1}, api.Rule{Id: "a", Route: "/", Kind: api.KindCap, Max: 1})
	checkCanon(t, api.Rule{Id: "a", Route: "/", Kind: api.KindBreaker, Fails: 1, Wait: 1}, api.Rule{Id: "a", Route: "/", Kind: api.KindBreaker, Fails: 1, Wait: 1, Probes: 1})
	checkCanon(t, api.Rule{Id: "a", Route: "/", Kind: api.KindBucket, Rate: 1000000, Per: 86400000, Burst: 1000000, Cost: 1000}, api.Rule{Id: "a", Route: "/", Kind: api.KindBucket, Rate: 5, Per: 432, Burst: 1000000, Cost: 1000})
}

func TestCanonOfSmallRates(t *testing.T) {
	for rate := range 400 {
		for per := 1; per <= 400; per++ {
			r := bucket()
			r.Rate, r.Per = rate, per
			checkRule(t, r)
		}
	}
}

func TestCanonOfGreatRates(t *testing.T) {
	rates := []int{0, 1, 2, 3, 5, 7, 997, 65521, 65536, 99991, 524288, 720720, 999936, 999983, 999998, 999999, 1000000}
	pers := []int{1, 2, 3, 5, 997, 1000, 60000, 65521, 65536, 999983, 1000000, 3600000, 16777216, 33554432, 67108864, 43046721, 72072000, 73513440, 86399999, 86400000, 999983 * 86, 65521 * 1318}
	for _, rate := range rates {
		for _, per := range pers {
			r := bucket()
			r.Rate, r.Per = rate, per
			checkRule(t, r)
		}
	}
	for n := 1; n <= 1000000; n += 7 {
		r := bucket()
		r.Rate, r.Per = n, n*86
		want := r
		want.Rate, want.Per = 1, 86
		checkCanon(t, r, want)
	}
}

// TestCanonOfNoRate: the per is 1, whatever it was.
func TestCanonOfNoRate(t *testing.T) {
	for per := 1; per <= 86400000; per += 997 {
		r := bucket()
		r.Rate, r.Per = 0, per
		want := r
		want.Per = 1
		checkCanon(t, r, want)
	}
}

func TestCanonOfCostsAndProbes(t *testing.T) {
	for n := range 1001 {
		r := bucket()
		r.Cost = n
		checkRule(t, r)
	}
	for n := range 101 {
		r := breaker()
		r.Probes = n
		checkRule(t, r)
	}
}

// TestCanonOfTheRest: no other number becomes another one, and neither does a string.
func TestCanonOfTheRest(t *testing.T) {
	r := rand.New(rand.NewSource(2))
	for range 100000 {
		rule := ruleAtRandom(r)
		got, _, _ := Canon(rule)
		got.Rate, got.Per = rule.Rate, rule.Per
		if rule.Cost == 0 {
			got.Cost = 0
		}
		if rule.Probes == 0 {
			got.Probes = 0
		}
		if got != rule {
			t.Fatalf("of %+v: %+v", rule, got)
		}
	}
}

// P21.3 (Kind)

func TestKindExamples(t *testing.T) {
	checkKind(t, api.KindBucket, "bucket")
	checkKind(t, api.KindCap, "cap")
	checkKind(t, api.KindBreaker, "breaker")
	checkKind(t, 0, "")
	checkKind(t, 4, "")
	checkKind(t, -1, "")
}

func TestKindOfOtherNumbers(t *testing.T) {
	for _, k := range noKinds() {
		checkKind(t, k, "")
	}
	r := rand.New(rand.NewSource(3))
	for range 100000 {
		k := int(r.Uint64()) >> r.Intn(64)
		checkKind(t, k, kindOf(k))
	}
}

// P21.3 (KindOf)

func TestKindOfExamples(t *testing.T) {
	checkKindOf(t, "bucket", api.KindBucket)
	checkKindOf(t, "cap", api.KindCap)
	checkKindOf(t, "breaker", api.KindBreaker)
	for _, s := range []string{"", " ", "b", "Bucket", "CAP", "Breaker", "buckets", "caps", "bucket ", " cap", "cap\n", "cap\x00", "\x00cap", "1", "2", "3", "bucketcapbreaker", "none", "rule", "\xff", "c\u00e4p"} {
		checkKindOf(t, s, 0)
	}
}

// TestKindOfNamesWithAnotherByte: one byte of a name is another one, is left out, or is put in.
func TestKindOfNamesWithAnotherByte(t *testing.T) {
	for _, name := range []string{"bucket", "cap", "breaker"} {
		for at := range len(name) {
			checkKindOf(t, name[:at]+name[at+1:], 0)
			checkKindOf(t, name[:at], 0)
			checkKindOf(t, name[at+1:], 0)
			for b := range 256 {
				s := name[:at] + string([]byte{byte(b)}) + name[at+1:]
				checkKindOf(t, s, numberOf(s))
			}
		}
		for at := range len(name) + 1 {
			for b := range 256 {
				checkKindOf(t, name[:at]+string([]byte{byte(b)})+name[at:], 0)
			}
		}
	}
}

func TestKindOfAllShortStrings(t *testing.T) {
	all := []string{""}
	for from, size := 0, 1; size <= 5; size++ {
		to := len(all)
		for _, s := range all[from:to] {
			for _, letter := range "bucketapr" {
				all = append(all, s+string(letter))
			}
		}
		from = to
	}
	for a := range 256 {
		all = append(all, string([]byte{byte(a)}))
		for b := range 256 {
			all = append(all, string([]byte{byte(a), byte(b)}))
		}
	}
	for _, s := range all {
		checkKindOf(t, s, numberOf(s))
	}
}

func TestKindAndKindOfAreInverses(t *testing.T) {
	for k := 1; k <= 3; k++ {
		checkKindOf(t, strings.Clone(Kind(k)), k)
		checkKindOf(t, ("x" + Kind(k) + "x")[1:1+len(Kind(k))], k)
	}
	for _, s := range []string{"bucket", "cap", "breaker"} {
		checkKind(t, KindOf(s), s)
	}
}

// P21.4

func TestCanonicalFormsAreValidAndTheirOwn(t *testing.T) {
	r := rand.New(rand.NewSource(4))
	for range 70000 {
		rule := ruleAtRandom(r)
		form, path, e := Canon(rule)
		if path != "" || e != 0 {
			t.Fatalf("Canon(%+v): %q, %d", rule, path, e)
		}
		checkCheck(t, form, "", api.OK)
		checkCanon(t, form, form)
		if rule.Kind == api.KindBucket && big.NewRat(int64(rule.Rate), int64(rule.Per)).Cmp(big.NewRat(int64(form.Rate), int64(form.Per))) != 0 {
			t.Fatalf("of %+v: %+v", rule, form)
		}
	}
}

// TestOneQuotientOneForm: what has the same rate has the same canonical form.
func TestOneQuotientOneForm(t *testing.T) {
	for rate := range 50 {
		for per := 1; per <= 50; per++ {
			r := bucket()
			r.Rate, r.Per = rate, per
			form, _, _ := Canon(r)
			for times := 2; times <= 40; times++ {
				r.Rate, r.Per = rate*times, per*times
				checkCanon(t, r, form)
			}
		}
	}
}

// R1, R3 and R4

// checkEnds fails if a call takes too long.
func checkEnds(t *testing.T, what string, call func()) {
	t.Helper()
	done := make(chan bool)
	go func() {
		call()
		close(done)
	}()
	select {
	case <-done:
	case <-time.After(20 * time.Second):
		t.Fatalf("%s does not end", what)
	}
}

// great are rules that are valid but for the string at the path, which is very long.
func great() map[string]api.Rule {
	long := strings.Repeat("/a", 1<<26)
	all := map[string]api.Rule{"/id": limit(), "/note": limit(), "/route": limit()}
	for path, r := range all {
		switch path {
		case "/id":
			r.Id = long[1:]
		case "/note":
			r.Note = long
		case "/route":
			r.Route = long
		}
		all[path] = r
	}
	return all
}

func TestGreatArgumentsEnd(t *testing.T) {
	wrong := map[string]api.Errno{"/id": api.ErrId, "/note": api.ErrLong, "/route": api.ErrRoute}
	all := great()
	checkEnds(t, "a call with a long string", func() {
		for path, r := range all {
			for range 1000 {
				if got, e := Check(r); got != path || e != wrong[path] {
					t.Errorf("Check of a rule with a great %s: %q, %d", path, got, e)
				}
				if form, got, e := Canon(r); form != (api.Rule{}) || got != path || e != wrong[path] {
					t.Errorf("Canon of a rule with a great %s: %q, %d", path, got, e)
				}
				if KindOf(r.Note) != 0 || KindOf(r.Id) != 0 {
					t.Error("a long string is a kind")
				}
			}
		}
	})
}

func TestNumbersAtTheLimitsEnd(t *testing.T) {
	list := []int{math.MinInt, math.MinInt + 1, -1, 0, 1, math.MaxInt}
	for _, n := range list {
		for _, r := range valid() {
			for _, r.Kind = range append(list, 2, 3) {
				for _, b := range numbers {
					*b.of(&r) = n
					checkRule(t, r)
				}
			}
		}
	}
}

// inside tells whether s lies in the memory of all.
func inside(s, all string) bool {
	at, from := uintptr(unsafe.Pointer(unsafe.StringData(s))), uintptr(unsafe.Pointer(unsafe.StringData(all)))
	return s != "" && at >= from && at < from+uintptr(len(all))
}

func TestCanonicalFormsAreNewMemory(t *testing.T) {
	r := rand.New(rand.NewSource(5))
	for range 10000 {
		rule := ruleAtRandom(r)
		all := strings.Clone(rule.Id + rule.Note + rule.Route)
		rule.Id, rule.Note, rule.Route = all[:len(rule.Id)], all[len(rule.Id):len(all)-len(rule.Route)], all[len(all)-len(rule.Route):]
		form, _, e := Canon(rule)
		if e != api.OK {
			t.Fatalf("Canon(%+v): %d", rule, e)
		}
		for _, s := range []string{form.Id, form.Note, form.Route} {
			if inside(s, all) {
				t.Fatalf("of %+v the result shares %q", rule, s)
			}
		}
		if inside(form.Id, form.Note) || inside(form.Id, form.Route) || inside(form.Note, form.Route) {
			t.Fatalf("of %+v the result shares memory of its own", rule)
		}
	}
}

// TestResultsStayAsTheyWere: though the bytes of the argument become others.
func TestResultsStayAsTheyWere(t *testing.T) {
	r := rand.New(rand.NewSource(6))
	for i := range 10000 {
		rule := ruleAtRandom(r)
		if i%2 == 0 {
			spoil(&rule, r.Intn(13), r.Intn(1000))
		}
		id, note, route := []byte(rule.Id+"<"), []byte(rule.Note+"<"), []byte(rule.Route+"<")
		held := rule
		held.Id = unsafe.String(&id[0], len(id)-1)
		held.Note = unsafe.String(&note[0], len(note)-1)
		held.Route = unsafe.String(&route[0], len(route)-1)
		form, path, e := Canon(held)
		at, wrong := Check(held)
		if string(id) != rule.Id+"<" || string(note) != rule.Note+"<" || string(route) != rule.Route+"<" {
			t.Fatalf("%+v has become %q, %q, %q", rule, id, note, route)
		}
		for _, bytes := range [][]byte{id, note, route} {
			clear(bytes)
		}
		want, wantPath, wantE := canonOf(rule)
		if form != want || path != wantPath || e != wantE || at != wantPath || wrong != wantE {
			t.Fatalf("of %+v: %+v, %q, %d; %q, %d", rule, form, path, e, at, wrong)
		}
	}
}

// TestSameAnswerEachTime: whatever is called in between, also at the same time.
func TestSameAnswerEachTime(t *testing.T) {
	done := make(chan bool)
	for worker := range 8 {
		go func() {
			defer func() { done <- true }()
			r := rand.New(rand.NewSource(int64(worker)))
			for range 20000 {
				rule := ruleAtRandom(r)
				if r.Intn(2) == 0 {
					spoil(&rule, r.Intn(13), r.Intn(1000))
				}
				want, path, e := canonOf(rule)
				form, got, wrong := Canon(rule)
				at, fault := Check(rule)
				if form != want || got != path || wrong != e || at != path || fault != e {
					t.Errorf("of %+v: %+v, %q, %d; %q, %d", rule, form, got, wrong, at, fault)
					return
				}
				if k := r.Intn(6) - 1; Kind(k) != kindOf(k) || KindOf(Kind(k)) != numberOf(kindOf(k)) {
					t.Errorf("Kind(%d) = %q", k, Kind(k))
					return
				}
			}
		}()
	}
	for range 8 {
		<-done
	}
}
