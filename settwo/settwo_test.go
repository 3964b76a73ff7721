package settwo

import (
	"fmt"
	"math"
	"math/big"
	"math/rand"
	"regexp"
	"slices"
	"sort"
	"strings"
	"testing"
	"time"
	"unicode/utf8"
	"unsafe"

	"stoplog/api"
	"stoplog/unit"
)

// What the functions must answer, by the chapter's own words.

var (
	ids      = regexp.MustCompile(`\A[a-z][a-z0-9_.-]{0,63}\z`)
	patterns = regexp.MustCompile(`\A(/|(/([a-zA-Z0-9_.~%-]+|\*)){0,31}/([a-zA-Z0-9_.~%-]+|\*\*?))\z`)
	sizes    = map[int]int64{1: 1, 2: 1000, 3: 60000}
)

// ticksOf multiplies in numbers without a limit; what is no span of time has 0 ticks.
func ticksOf(window, unit int) int {
	ticks := new(big.Int).Mul(big.NewInt(int64(window)), big.NewInt(sizes[unit]))
	if ticks.Sign() < 0 || ticks.Cmp(big.NewInt(86400000)) > 0 {
		return 0
	}
	return int(ticks.Int64())
}

// normOf tries the units, the greatest one first.
func normOf(ticks int) (int, int) {
	if ticks%60000 == 0 {
		return ticks / 60000, 3
	}
	if ticks%1000 == 0 {
		return ticks / 1000, 2
	}
	return ticks, 1
}

// finding is something that may be wrong with a rule.
type finding struct {
	wrong bool
	path  string
	e     api.Errno
}

// findings are in the chapter's order.
func findings(r api.RuleTwo) []finding {
	rate, limited := r.Kind == 1, r.Kind == 2
	return []finding{
		{!ids.MatchString(r.Id), "/id", 13},
		{len(r.Note) >= 256, "/note", 5},
		{!utf8.ValidString(r.Note), "/note", 8},
		{len(r.Match) >= 256 || !patterns.MatchString(r.Match), "/match", 14},
		{r.Rank < 0 || r.Rank > 1000, "/rank", 2},
		{!rate && !limited, "/kind", 15},
		{rate && (r.Limit < 0 || r.Limit > 1000000), "/limit", 2},
		{limited && (r.Limit < 1 || r.Limit > 1000000), "/limit", 2},
		{rate && sizes[r.Unit] == 0, "/unit", 15},
		{rate && ticksOf(r.Window, r.Unit) == 0, "/window", 2},
		{rate && (r.Burst < 0 || r.Burst > 1000000), "/burst", 2},
		{limited && r.Unit != 0, "/unit", 17},
		{limited && r.Window != 0, "/window", 17},
		{limited && r.Burst != 0, "/burst", 17},
	}
}

// ruleOf looks at one rule alone.
func ruleOf(r api.RuleTwo) (string, api.Errno) {
	for _, f := range findings(r) {
		if f.wrong {
			return f.path, f.e
		}
	}
	return "", 0
}

// checkOf holds each rule against all earlier ones.
func checkOf(l []api.RuleTwo) (string, api.Errno) {
	if len(l) >= 4097 {
		return "", 12
	}
	for i := range l {
		if path, e := ruleOf(l[i]); e != 0 {
			return fmt.Sprintf("/%d%s", i, path), e
		}
		for j := range i {
			if l[j].Id == l[i].Id {
				return fmt.Sprintf("/%d/id", i), 11
			}
		}
	}
	return "", 0
}

// formOf is the canonical form of a rule that is valid.
func formOf(r api.RuleTwo) api.RuleTwo {
	if r.Kind == 1 {
		r.Window, r.Unit = normOf(ticksOf(r.Window, r.Unit))
		if r.Burst == 0 {
			r.Burst = r.Limit
		}
		if r.Burst == 0 {
			r.Burst = 1
		}
	}
	return r
}

// canonOf sorts the ids and then takes the rule of each one.
func canonOf(l []api.RuleTwo) ([]api.RuleTwo, string, api.Errno) {
	if path, e := checkOf(l); e != 0 {
		return nil, path, e
	}
	rules := map[string]api.RuleTwo{}
	var all []string
	for _, r := range l {
		rules[r.Id] = formOf(r)
		all = append(all, r.Id)
	}
	sort.Strings(all)
	var form []api.RuleTwo
	for _, id := range all {
		form = append(form, rules[id])
	}
	return form, "", 0
}

// isOf looks at each rule, and at the ids of each two neighbours: no greater unit divides a window, and no rate is without a burst.
func isOf(l []api.RuleTwo) bool {
	if _, e := checkOf(l); e != 0 {
		return false
	}
	for i, r := range l {
		if r.Kind == 1 && (r.Burst == 0 || r.Unit == 1 && r.Window%1000 == 0 || r.Unit == 2 && r.Window%60 == 0) {
			return false
		}
		if i > 0 && l[i-1].Id >= r.Id {
			return false
		}
	}
	return true
}

func kindOf(k int) string {
	switch k {
	case 1:
		return "rate"
	case 2:
		return "cap"
	}
	return ""
}

func numberOf(s string) int {
	switch s {
	case "rate":
		return 1
	case "cap":
		return 2
	}
	return 0
}

// Checks of one call each.

func checkCheck(t *testing.T, l []api.RuleTwo, path string, wrong api.Errno) {
	t.Helper()
	if got, e := Check(l); got != path || e != wrong {
		t.Fatalf("Check(%s) = %q, %d, want %q, %d", told(l), got, e, path, wrong)
	}
}

// checkWrong sees that l has neither a canonical form nor another fault.
func checkWrong(t *testing.T, l []api.RuleTwo, path string, wrong api.Errno) {
	t.Helper()
	checkCheck(t, l, path, wrong)
	if got, at, e := Canon(l); len(got) != 0 || at != path || e != wrong {
		t.Fatalf("Canon(%s) = %s, %q, %d, want %q, %d", told(l), told(got), at, e, path, wrong)
	}
	checkIs(t, l, false)
}

func checkCanon(t *testing.T, l, want []api.RuleTwo) {
	t.Helper()
	got, path, e := Canon(l)
	if !slices.Equal(got, want) || path != "" || e != 0 {
		t.Fatalf("Canon(%s) = %s, %q, %d, want %s", told(l), told(got), path, e, told(want))
	}
}

func checkIs(t *testing.T, l []api.RuleTwo, want bool) {
	t.Helper()
	if got := Is(l); got != want {
		t.Fatalf("Is(%s) = %t", told(l), got)
	}
}

// checkSet holds the functions of sets against the oracles, and what is canonical against P24.5.
func checkSet(t *testing.T, l ...api.RuleTwo) {
	t.Helper()
	want, path, e := canonOf(l)
	if e != 0 {
		checkWrong(t, l, path, e)
		return
	}
	checkCheck(t, l, "", 0)
	checkCanon(t, l, want)
	checkIs(t, l, isOf(l))
	checkCheck(t, want, "", 0)
	checkCanon(t, want, want)
	checkIs(t, want, true)
}

func checkKind(t *testing.T, k int, want string) {
	t.Helper()
	if got := Kind(k); got != want {
		t.Fatalf("Kind(%d) = %q, want %q", k, got, want)
	}
}

func checkKindOf(t *testing.T, s string, want int) {
	t.Helper()
	if got := KindOf(s); got != want {
		t.Fatalf("KindOf(%q) = %d, want %d", s, got, want)
	}
}

// told is a set, or its beginning if it is long.
func told(l []api.RuleTwo) string {
	if len(l) > 10 {
		return fmt.Sprintf("%d rules, %.2000s", len(l), fmt.Sprintf("%+v", l[:10]))
	}
	return fmt.Sprintf("%.2000s", fmt.Sprintf("%+v", l))
}

// What is tried.

// rate is a canonical one with that id.
func rate(id string) api.RuleTwo {
	return api.RuleTwo{Id: id, Note: "a note", Match: "/a/**", Rank: 7, Kind: 1, Limit: 10, Window: 5, Unit: 2, Burst: 3}
}

// limit is a canonical cap with that id.
func limit(id string) api.RuleTwo {
	return api.RuleTwo{Id: id, Match: "/a/*/b", Rank: 1000, Kind: 2, Limit: 4}
}

// both is one rule of each kind.
func both() []api.RuleTwo {
	return []api.RuleTwo{rate("a"), limit("a")}
}

// mixed are rates and caps in turn, with those ids.
func mixed(ids ...string) []api.RuleTwo {
	var l []api.RuleTwo
	for i, id := range ids {
		if i%2 == 0 {
			l = append(l, rate(id))
		} else {
			l = append(l, limit(id))
		}
	}
	return l
}

// window is a rate with that window.
func window(n, unit int) api.RuleTwo {
	r := rate("a")
	r.Window, r.Unit = n, unit
	return r
}

// many are so many rules, in their canonical form.
func many(size int) []api.RuleTwo {
	l := make([]api.RuleTwo, size)
	for i := range l {
		if l[i] = rate(fmt.Sprintf("r%07d", i)); i%3 == 0 {
			l[i] = limit(l[i].Id)
		}
	}
	return l
}

// number is the path of a number in a rule, and the number.
type number struct {
	path string
	of   func(r *api.RuleTwo) *int
}

// numbers are in the order in which they are checked.
var numbers = []number{
	{"/rank", func(r *api.RuleTwo) *int { return &r.Rank }},
	{"/kind", func(r *api.RuleTwo) *int { return &r.Kind }},
	{"/limit", func(r *api.RuleTwo) *int { return &r.Limit }},
	{"/unit", func(r *api.RuleTwo) *int { return &r.Unit }},
	{"/window", func(r *api.RuleTwo) *int { return &r.Window }},
	{"/burst", func(r *api.RuleTwo) *int { return &r.Burst }},
}

// about are the numbers that lie about those that count, with either sign, and those that would be one of them in fewer bits or after a product that wraps round.
func about(list ...int) []int {
	var all []int
	for _, n := range append(list, 0, 60, 1000, 1440, 60000, 86400, 1000000, 86400000, 1<<31, 1<<32, math.MaxInt/60000, math.MaxInt/30000, math.MaxInt/1000, math.MaxInt/500) {
		for off := -3; off <= 3; off++ {
			all = append(all, n+off, -n+off)
		}
	}
	for shift := range 64 {
		for off := -1; off <= 4; off++ {
			all = append(all, 1<<shift+off, -1<<shift+off)
		}
	}
	return append(all, math.MinInt, math.MaxInt)
}

// noKinds are numbers without a kind.
func noKinds() []int {
	var list []int
	for k := range 70000 {
		list = append(list, k+3, -k)
	}
	for _, k := range about() {
		if kindOf(k) == "" {
			list = append(list, k)
		}
	}
	return list
}

// wrongIds, wrongMatches and noTexts are strings that may not stand there.
var (
	wrongIds     = []string{"", "A", "1", "1a", "-", "_a", ".a", " a", "a ", "aB", "a/b", "a\n", "\na", "a\x00", "\u00e9", "a\u00e9", "a\xff", "a~", "a%", "a*", strings.Repeat("a", 65), strings.Repeat("a", 66), strings.Repeat("a", 1000)}
	rightIds     = []string{"a", "z", "a-1.b", "b_", "c.", "d9", "e-", "aa", "ab", "a-", "a.", "a0", strings.Repeat("a", 63), strings.Repeat("a", 64), strings.Repeat("z", 64)}
	wrongMatches = []string{"", "a", "a/b", " /", "/ ", "//", "/a/", "//a", "/a//b", "/***", "/a/***", "/**/a", "/**/**", "/**/", "/*a", "/a*", "/a**", "/a?b", "/a b", "/\u00e9", "/\xff", "/a\n", "/a\x00", "*", "**", "/a:b", strings.Repeat("/a", 33), strings.Repeat("/a", 32) + "/**", "/" + strings.Repeat("a", 255)}
	rightMatches = []string{"/", "/a", "/A/b", "/*", "/**", "/*/*", "/*/**", "/a/*/**", "/a/**", "/a-1_b.c~d%20", "/.", "/..", "/0", strings.Repeat("/a", 32), strings.Repeat("/*", 32), strings.Repeat("/a", 31) + "/**", "/" + strings.Repeat("a", 254), "/" + strings.Repeat("a", 251) + "/**"}
	noTexts      = []string{"\xff", "\x80", "a\xc3", "\xe2\x82", "\xc0\x80", "\xed\xa0\x80", "\xed\xbf\xbf", "\xf4\x90\x80\x80", "\xf8\x88\x80\x80\x80", "ab\xe2\x82\xacc\xbf", "\xf0\x80\x80\x80", strings.Repeat("a", 254) + "\xc3"}
	rightNotes   = []string{"", "a", "\x00", "\n\t\"\\", "\u00e9", "\u20ac", "\U0010ffff", "\ud7ff\ue000", "\ufffd", strings.Repeat("a", 255), strings.Repeat("\u20ac", 85), "a" + strings.Repeat("\u00e9", 127), "abc" + strings.Repeat("\U0001f600", 63)}
)

// spoil sets the field, counted in the order in which they are checked, to one that is wrong in a rule of either kind.
func spoil(r *api.RuleTwo, field, how int) {
	switch field {
	case 0:
		r.Id = wrongIds[how%len(wrongIds)]
	case 1:
		if r.Note = strings.Repeat("\u00e9", 128+how); how%2 == 0 {
			r.Note = noTexts[how%len(noTexts)]
		}
	case 2:
		r.Match = wrongMatches[how%len(wrongMatches)]
	case 3:
		r.Rank = []int{-1, 1001, math.MinInt, math.MaxInt}[how%4]
	case 4:
		r.Kind = []int{0, 3, -1, math.MaxInt}[how%4]
	case 5:
		r.Limit = []int{-1, 1000001, math.MinInt, math.MaxInt}[how%4]
	case 6:
		r.Unit = []int{-1, 4, math.MinInt, math.MaxInt}[how%4]
	case 7:
		r.Window = []int{-1, 86400001, math.MinInt, math.MaxInt}[how%4]
	case 8:
		r.Burst = []int{-1, 1000001, math.MinInt, math.MaxInt}[how%4]
	}
}

// fieldPaths are the paths of the fields that spoil counts.
var fieldPaths = []string{"/id", "/note", "/match", "/rank", "/kind", "/limit", "/unit", "/window", "/burst"}

// upTo is a number from lo to hi, a small one more often than a great one.
func upTo(r *rand.Rand, lo, hi int) int {
	if r.Intn(2) == 0 {
		hi = min(hi, lo+1<<r.Intn(27))
	}
	return lo + r.Intn(hi-lo+1)
}

// idAtRandom is one of a few, or of many.
func idAtRandom(r *rand.Rand) string {
	switch r.Intn(4) {
	case 0:
		return rightIds[r.Intn(len(rightIds))]
	case 1:
		return string(rune('a' + r.Intn(26)))
	}
	id := []byte{byte('a' + r.Intn(26))}
	for range r.Intn(4) {
		id = append(id, "az09-_."[r.Intn(7)])
	}
	return string(id)
}

// ruleAtRandom is a valid one of either kind.
func ruleAtRandom(r *rand.Rand) api.RuleTwo {
	rule := api.RuleTwo{Id: idAtRandom(r), Note: rightNotes[r.Intn(len(rightNotes))], Match: rightMatches[r.Intn(len(rightMatches))], Rank: r.Intn(1001), Kind: 2, Limit: upTo(r, 1, 1000000)}
	if r.Intn(3) == 0 {
		return rule
	}
	rule.Kind, rule.Limit, rule.Burst, rule.Unit = 1, upTo(r, 0, 1000000), upTo(r, 0, 1000000), 1+r.Intn(3)
	most := 86400000 / int(sizes[rule.Unit])
	rule.Window = upTo(r, 1, most)
	if step := []int{1, 60, 1000, 60000}[r.Intn(4)]; step <= most {
		rule.Window = step * upTo(r, 1, most/step)
	}
	if r.Intn(3) == 0 {
		rule.Burst = 0
	}
	return rule
}

// setAtRandom is valid if its ids are different ones.
func setAtRandom(r *rand.Rand, size int) []api.RuleTwo {
	var l []api.RuleTwo
	for range size {
		l = append(l, ruleAtRandom(r))
	}
	return l
}

// distinct is l without the rules whose id an earlier one has.
func distinct(l []api.RuleTwo) []api.RuleTwo {
	var kept []api.RuleTwo
	for _, r := range l {
		if !slices.ContainsFunc(kept, func(k api.RuleTwo) bool { return k.Id == r.Id }) {
			kept = append(kept, r)
		}
	}
	return kept
}

// orders calls visit with each order of the rules.
func orders(l []api.RuleTwo, from int, visit func(l []api.RuleTwo)) {
	if from == len(l) {
		visit(l)
		return
	}
	for i := from; i < len(l); i++ {
		l[from], l[i] = l[i], l[from]
		orders(l, from+1, visit)
		l[from], l[i] = l[i], l[from]
	}
}

// P24.1

func TestCheckExamples(t *testing.T) {
	checkCheck(t, nil, "", api.OK)
	checkCheck(t, []api.RuleTwo{}, "", api.OK)
	checkCheck(t, mixed("a"), "", api.OK)
	checkCheck(t, mixed("b", "a", "c"), "", api.OK)
	checkCheck(t, []api.RuleTwo{{Id: "a", Match: "/", Kind: api.KindBucket, Window: 1, Unit: 1}}, "", api.OK)
	checkCheck(t, []api.RuleTwo{{Id: "a", Match: "/", Kind: api.KindCap, Limit: 1}}, "", api.OK)
	checkWrong(t, []api.RuleTwo{limit("a"), window(1441, api.UnitMinute)}, "/1/window", api.ErrRange)
	checkWrong(t, mixed("a", "a"), "/1/id", api.ErrTwice)
	checkWrong(t, mixed("a", "b", "c", "a"), "/3/id", api.ErrTwice)
	checkWrong(t, mixed("a", "b", "c", "c"), "/3/id", api.ErrTwice)
	checkWrong(t, mixed("a", "a", "b", "b"), "/1/id", api.ErrTwice)
	checkWrong(t, []api.RuleTwo{{Id: "a", Match: "/", Kind: api.KindCap, Limit: 1, Unit: 1}}, "/0/unit", api.ErrUnknown)
	checkWrong(t, make([]api.RuleTwo, 1), "/0/id", api.ErrId)
	checkWrong(t, make([]api.RuleTwo, 2), "/0/id", api.ErrId)
	checkWrong(t, []api.RuleTwo{{Id: "a"}}, "/0/match", api.ErrRoute)
	checkWrong(t, []api.RuleTwo{{Id: "a", Match: "/"}}, "/0/kind", api.ErrKind)
	checkWrong(t, []api.RuleTwo{{Id: "a", Match: "/", Kind: api.KindBucket}}, "/0/unit", api.ErrKind)
	checkWrong(t, []api.RuleTwo{{Id: "a", Match: "/", Kind: api.KindBucket, Unit: 1}}, "/0/window", api.ErrRange)
	checkWrong(t, []api.RuleTwo{{Id: "a", Match: "/", Kind: api.KindBucket, Window: -1}}, "/0/unit", api.ErrKind)
	checkWrong(t, []api.RuleTwo{{Id: "a", Match: "/", Kind: api.KindCap}}, "/0/limit", api.ErrRange)
	checkWrong(t, []api.RuleTwo{{Id: "a", Match: "/", Kind: api.KindBreaker, Limit: 1}}, "/0/kind", api.ErrKind)
	checkWrong(t, []api.RuleTwo{rate("a"), {}, {}}, "/1/id", api.ErrId)
	checkWrong(t, make([]api.RuleTwo, 4096), "/0/id", api.ErrId)
	checkWrong(t, make([]api.RuleTwo, 4097), "", api.ErrMany)
}

// TestCheckOfIds: each length, and each byte at the beginning and behind it.
func TestCheckOfIds(t *testing.T) {
	for _, r := range both() {
		for _, r.Id = range wrongIds {
			checkWrong(t, []api.RuleTwo{r}, "/0/id", api.ErrId)
			checkWrong(t, []api.RuleTwo{limit("b"), r}, "/1/id", api.ErrId)
		}
		for _, r.Id = range rightIds {
			checkSet(t, r)
			checkCheck(t, []api.RuleTwo{r}, "", api.OK)
		}
		for size := range 200 {
			r.Id = strings.Repeat("a", size)
			checkSet(t, r)
		}
		for b := range 256 {
			for _, s := range []string{"", "a", "a.b-c_9", strings.Repeat("z", 63)} {
				r.Id = s + string([]byte{byte(b)})
				checkSet(t, r)
				r.Id = string([]byte{byte(b)}) + s
				checkSet(t, r)
			}
		}
	}
}

func TestCheckOfNotes(t *testing.T) {
	for _, r := range both() {
		for _, r.Note = range rightNotes {
			checkSet(t, r)
			checkCheck(t, []api.RuleTwo{r}, "", api.OK)
		}
		for _, r.Note = range noTexts {
			checkWrong(t, []api.RuleTwo{r}, "/0/note", api.ErrText)
		}
		for _, s := range []string{"a", "\x00", "\u00e9", "\u20ac", "\U0001f600", "\xff", "a\x80"} {
			for size := range 300 {
				r.Note = strings.Repeat(s, size)
				checkSet(t, r)
			}
		}
		for a := range 256 {
			for b := range 256 {
				r.Note = string([]byte{byte(a), byte(b)})
				checkSet(t, r)
			}
			r.Note = "\xe2\x82" + string([]byte{byte(a)})
			checkSet(t, r)
		}
	}
}

// TestLongNotesThatAreNoTexts: that a note is too long counts ahead of what its bytes are, wherever they are wrong.
func TestLongNotesThatAreNoTexts(t *testing.T) {
	for _, r := range both() {
		for at := range 255 {
			r.Note = strings.Repeat("a", at) + "\xff" + strings.Repeat("a", 254-at)
			checkWrong(t, []api.RuleTwo{r}, "/0/note", api.ErrText)
			r.Note += "a"
			checkWrong(t, []api.RuleTwo{r}, "/0/note", api.ErrLong)
		}
		r.Note = strings.Repeat("a", 254) + "\u00e9"
		checkWrong(t, []api.RuleTwo{r}, "/0/note", api.ErrLong)
		r.Note = r.Note[:255]
		checkWrong(t, []api.RuleTwo{r}, "/0/note", api.ErrText)
	}
}

func TestCheckOfMatches(t *testing.T) {
	for _, r := range both() {
		for _, r.Match = range rightMatches {
			checkSet(t, r)
			checkCheck(t, []api.RuleTwo{r}, "", api.OK)
		}
		for _, r.Match = range wrongMatches {
			checkWrong(t, []api.RuleTwo{r}, "/0/match", api.ErrRoute)
		}
		for size := range 300 {
			r.Match = "/" + strings.Repeat("a", size)
			checkSet(t, r)
			r.Match = strings.Repeat("/b", size)
			checkSet(t, r)
			r.Match = strings.Repeat("/*", size) + "/**"
			checkSet(t, r)
		}
		for b := range 256 {
			for _, s := range []string{"", "/", "/a", "/*", "/a/b"} {
				r.Match = s + string([]byte{byte(b)})
				checkSet(t, r)
				r.Match = s + string([]byte{'/', byte(b)}) + s
				checkSet(t, r)
			}
		}
	}
}

// TestCheckOfEachNumber: each number of a rule about its limits and those of others, in rules of both kinds.
func TestCheckOfEachNumber(t *testing.T) {
	for _, n := range numbers {
		for _, first := range both() {
			for _, to := range about() {
				r := first
				*n.of(&r) = to
				checkSet(t, r)
			}
			for to := -2000; to <= 2000; to++ {
				r := first
				*n.of(&r) = to
				checkSet(t, r)
				*n.of(&r) = 1000000 + to
				checkSet(t, r)
			}
		}
	}
}

// TestCheckOfRanks: the least and the greatest one of each kind of rules.
func TestCheckOfRanks(t *testing.T) {
	for _, r := range both() {
		for _, r.Rank = range []int{0, 1, 999, 1000} {
			checkCheck(t, []api.RuleTwo{r}, "", api.OK)
		}
		for _, r.Rank = range []int{-1, 1001, math.MinInt, math.MaxInt} {
			checkWrong(t, []api.RuleTwo{r}, "/0/rank", api.ErrRange)
		}
	}
}

// TestCheckOfKinds: whether a kind is wrong counts ahead of all later numbers.
func TestCheckOfKinds(t *testing.T) {
	all := append(both(), api.RuleTwo{Id: "a", Match: "/"}, api.RuleTwo{Id: "a", Match: "/", Limit: -1, Window: -1, Unit: -1, Burst: -1})
	for _, r := range all {
		for _, r.Kind = range noKinds() {
			checkWrong(t, []api.RuleTwo{r}, "/0/kind", api.ErrKind)
		}
	}
}

// TestCheckOfLimits: a rate may have none, a cap may not.
func TestCheckOfLimits(t *testing.T) {
	for n := -10; n <= 1000010; n += 31 {
		r, c := rate("a"), limit("a")
		r.Limit, c.Limit = n, n
		checkSet(t, r)
		checkSet(t, c)
	}
	r, c := rate("a"), limit("a")
	for _, r.Limit = range []int{0, 1, 1000000} {
		checkCheck(t, []api.RuleTwo{r}, "", api.OK)
	}
	for _, c.Limit = range []int{1, 2, 1000000} {
		checkCheck(t, []api.RuleTwo{c}, "", api.OK)
	}
	for _, n := range []int{-1, 1000001, math.MinInt, math.MaxInt} {
		r.Limit, c.Limit = n, n
		checkWrong(t, []api.RuleTwo{r}, "/0/limit", api.ErrRange)
		checkWrong(t, []api.RuleTwo{c}, "/0/limit", api.ErrRange)
	}
	c.Limit = 0
	checkWrong(t, []api.RuleTwo{c}, "/0/limit", api.ErrRange)
}

// TestCheckOfUnits: a rate has one of three, a cap none; whether there is one counts ahead of the window.
func TestCheckOfUnits(t *testing.T) {
	for _, n := range append(about(), -2, -1, 0, 1, 2, 3, 4, 5, 255, 256, 257, 258) {
		r, c := rate("a"), limit("a")
		r.Unit, c.Unit = n, n
		checkSet(t, r)
		checkSet(t, c)
		r.Window, c.Window = -1, -1
		checkSet(t, r)
		checkSet(t, c)
		path, wrong := "/0/unit", api.ErrKind
		if n >= 1 && n <= 3 {
			path, wrong = "/0/window", api.ErrRange
		}
		checkWrong(t, []api.RuleTwo{r}, path, wrong)
	}
}

// TestCheckOfWindows: the error is that of unit.Ticks, for each number of seconds and of minutes, and for those of ticks in steps.
func TestCheckOfWindows(t *testing.T) {
	check := func(n, u int) {
		path := ""
		_, e := unit.Ticks(n, u)
		if e != api.OK {
			path = "/0/window"
		}
		checkCheck(t, []api.RuleTwo{window(n, u)}, path, e)
	}
	for n := -5; n <= 87000; n++ {
		check(n, api.UnitTick)
		check(n, api.UnitSecond)
		check(n, api.UnitMinute)
		check(n*997, api.UnitTick)
	}
	for _, n := range about() {
		for u := 1; u <= 3; u++ {
			check(n, u)
			checkSet(t, window(n, u))
		}
	}
	for u, most := range []int{1: 86400000, 2: 86400, 3: 1440} {
		if u > 0 {
			checkCheck(t, []api.RuleTwo{window(1, u)}, "", api.OK)
			checkCheck(t, []api.RuleTwo{window(most, u)}, "", api.OK)
			checkWrong(t, []api.RuleTwo{window(0, u)}, "/0/window", api.ErrRange)
			checkWrong(t, []api.RuleTwo{window(most+1, u)}, "/0/window", api.ErrRange)
		}
	}
}

// TestCheckOfBursts: a rate may have none, a cap has none.
func TestCheckOfBursts(t *testing.T) {
	r, c := rate("a"), limit("a")
	for _, r.Burst = range []int{0, 1, 1000000} {
		checkCheck(t, []api.RuleTwo{r}, "", api.OK)
	}
	for _, r.Burst = range []int{-1, 1000001, math.MinInt, math.MaxInt} {
		checkWrong(t, []api.RuleTwo{r}, "/0/burst", api.ErrRange)
	}
	for _, c.Burst = range []int{-1, 1, 1000000, 1000001, math.MinInt, math.MaxInt} {
		checkWrong(t, []api.RuleTwo{c}, "/0/burst", api.ErrUnknown)
	}
}

// TestCheckOfSmallNumbers: all of some small ones in all fields but the rank at once.
func TestCheckOfSmallNumbers(t *testing.T) {
	for n := range 5 * 4 * 5 * 7 * 4 {
		r := api.RuleTwo{Id: "a", Match: "/", Kind: n%5 - 1, Limit: n/5%4 - 1, Window: n/20%5 - 1, Unit: n/100%7 - 1, Burst: n/700 - 1}
		checkSet(t, r)
		checkSet(t, limit("b"), r)
	}
}

// TestTheFirstWrongFieldCounts: of any of the fields, of which each one is wrong in several ways.
func TestTheFirstWrongFieldCounts(t *testing.T) {
	for _, first := range both() {
		for set := range 1 << 9 {
			for how := range 24 {
				r := first
				for field := range 9 {
					if set>>field&1 == 1 {
						spoil(&r, field, how+field)
					}
				}
				checkSet(t, r)
				checkSet(t, rate("b"), r)
			}
		}
	}
}

// TestOfTwoWrongFieldsTheFirstCounts, whatever is wrong with them.
func TestOfTwoWrongFieldsTheFirstCounts(t *testing.T) {
	for _, first := range both() {
		for a := range 9 {
			for b := range a {
				for how := range 60 {
					r := first
					spoil(&r, a, how)
					spoil(&r, b, how/4)
					if path, _ := Check([]api.RuleTwo{r}); path != "/0"+fieldPaths[b] {
						t.Fatalf("of %+v: %q", r, path)
					}
					checkSet(t, r)
				}
			}
		}
	}
}

// TestFieldsThatAreZero: any of the numbers is left out, in rules of any kind.
func TestFieldsThatAreZero(t *testing.T) {
	for kind := -1; kind <= 4; kind++ {
		for set := range 1 << 5 {
			for n := 1; n <= 2; n++ {
				r := api.RuleTwo{Id: "a", Match: "/", Kind: kind}
				for i, field := range []*int{&r.Rank, &r.Limit, &r.Unit, &r.Window, &r.Burst} {
					if set>>i&1 == 1 {
						*field = n
					}
				}
				checkSet(t, r)
			}
		}
	}
}

// TestTheFirstWrongRuleCounts: of any two that are wrong, in whatever ways.
func TestTheFirstWrongRuleCounts(t *testing.T) {
	for a := range 9 {
		for b := range 9 {
			for how := range 8 {
				for second := 1; second <= 3; second++ {
					for first := range second {
						l := mixed("a", "b", "c", "d")
						spoil(&l[first], a, how)
						spoil(&l[second], b, how/2)
						path, e := ruleOf(l[first])
						checkWrong(t, l, fmt.Sprintf("/%d%s", first, path), e)
						checkCheck(t, l[:first], "", api.OK)
					}
				}
			}
		}
	}
}

// TestOfOneRuleItsFieldsCountAheadOfItsIdTwice, and a rule that is wrong counts ahead of a later one that has its id.
func TestOfOneRuleItsFieldsCountAheadOfItsIdTwice(t *testing.T) {
	for field := range 9 {
		for how := range 12 {
			for wrong := range 4 {
				l := mixed("a", "b", "a", "b")
				spoil(&l[wrong], field, how)
				path, e := ruleOf(l[wrong])
				if path = fmt.Sprintf("/%d%s", wrong, path); wrong == 3 {
					path, e = "/2/id", api.ErrTwice
				}
				checkWrong(t, l, path, e)
			}
			l := mixed("a", "b", "c", "b")
			spoil(&l[2], field, how)
			path, e := ruleOf(l[2])
			checkWrong(t, l, "/2"+path, e)
			l[2] = rate("c")
			checkWrong(t, l, "/3/id", api.ErrTwice)
		}
	}
}

// TestIdsThatAreAlmostTheSame are different ones.
func TestIdsThatAreAlmostTheSame(t *testing.T) {
	long := strings.Repeat("a", 63)
	checkSet(t, mixed("a", "aa", "a.", "a-", "a_", "a0", "aaa", "b", long, long+"a", long+"b", long[:62])...)
	checkSet(t, mixed(long+"a", long+"b", long+"a")...)
	for a := range 256 {
		for b := range 256 {
			checkSet(t, mixed("a"+string([]byte{byte(a)}), "a"+string([]byte{byte(b)}))...)
		}
	}
}

// TestRulesThatDifferButHaveOneId: an id counts, not the rest of a rule, and not the kind; and rules that have all but the id in common are no fault.
func TestRulesThatDifferButHaveOneId(t *testing.T) {
	r := rand.New(rand.NewSource(1))
	for range 2000 {
		a, b := ruleAtRandom(r), ruleAtRandom(r)
		b.Id = a.Id
		checkWrong(t, []api.RuleTwo{a, b}, "/1/id", api.ErrTwice)
		b = a
		a.Id, b.Id = "a", "b"
		checkCheck(t, []api.RuleTwo{b, a}, "", api.OK)
	}
}

// TestCheckOfManyRules: that there are too many counts ahead of what is wrong with one of them.
func TestCheckOfManyRules(t *testing.T) {
	for size := range 300 {
		checkCheck(t, many(size), "", api.OK)
		checkIs(t, many(size), true)
	}
	for size := 4090; size <= 4100; size++ {
		l := many(size)
		path, e := "", api.OK
		if size > 4096 {
			e = api.ErrMany
		}
		checkCheck(t, l, path, e)
		for _, at := range []int{0, 1, 9, 10, 99, 100, 999, 1000, 2048, size - 2, size - 1} {
			held := l[at]
			l[at].Match = "x"
			path, e := fmt.Sprintf("/%d/match", at), api.ErrRoute
			if size > 4096 {
				path, e = "", api.ErrMany
			}
			checkWrong(t, l, path, e)
			l[at] = held
			if at > 0 {
				l[at].Id = l[at/2].Id
				if size <= 4096 {
					path, e = fmt.Sprintf("/%d/id", at), api.ErrTwice
				}
				checkWrong(t, l, path, e)
				l[at] = held
			}
		}
	}
	for _, size := range []int{5000, 8192, 65536, 65537, 70000, 1 << 20} {
		checkWrong(t, many(size), "", api.ErrMany)
		checkWrong(t, make([]api.RuleTwo, size), "", api.ErrMany)
	}
}

// TestCheckOfEachPlace: the path has the index of the rule, whatever is wrong with it; of the later places, some.
func TestCheckOfEachPlace(t *testing.T) {
	l := many(4096)
	for at := 1; at < len(l); at += 1 + at/100 {
		held := l[at]
		spoil(&l[at], at%9, at/9)
		path, e := ruleOf(l[at])
		checkCheck(t, l, fmt.Sprintf("/%d%s", at, path), e)
		l[at] = held
		l[at].Id = l[(at*7+3)%at].Id
		checkCheck(t, l, fmt.Sprintf("/%d/id", at), api.ErrTwice)
		l[at].Id = l[at-1].Id
		checkCheck(t, l, fmt.Sprintf("/%d/id", at), api.ErrTwice)
		l[at] = held
	}
}

// TestCheckOfAllSmallSets: each rule has one of three ids or is wrong in one of several ways.
func TestCheckOfAllSmallSets(t *testing.T) {
	kinds := []api.RuleTwo{rate("a"), limit("a"), limit("b"), window(60000, 1), {}, {Id: "b"}, {Id: "a", Match: "/", Kind: 2, Limit: 1, Window: 1}, {Id: "c", Match: "/", Kind: 1, Limit: 0, Window: 120, Unit: 2}}
	for size := range 5 {
		all := 1
		for range size {
			all *= len(kinds)
		}
		for n := range all {
			var l []api.RuleTwo
			for range size {
				l = append(l, kinds[n%len(kinds)])
				n /= len(kinds)
			}
			checkSet(t, l...)
		}
	}
}

func TestCheckAtRandom(t *testing.T) {
	r := rand.New(rand.NewSource(2))
	for range 5000 {
		l := setAtRandom(r, r.Intn(12))
		checkSet(t, l...)
		l = distinct(l)
		checkSet(t, l...)
		if len(l) > 0 {
			*numbers[r.Intn(6)].of(&l[r.Intn(len(l))]) = int(r.Uint64()) >> r.Intn(64)
			checkSet(t, l...)
			spoil(&l[r.Intn(len(l))], r.Intn(9), r.Intn(1000))
			checkSet(t, l...)
			l[r.Intn(len(l))].Id = l[r.Intn(len(l))].Id
			checkSet(t, l...)
		}
	}
	for range 20 {
		checkSet(t, distinct(setAtRandom(r, r.Intn(400)))...)
	}
}

// P24.2

func TestCanonExamples(t *testing.T) {
	checkCanon(t, nil, nil)
	checkCanon(t, []api.RuleTwo{}, nil)
	checkCanon(t, []api.RuleTwo{limit("b"), rate("a")}, []api.RuleTwo{rate("a"), limit("b")})
	checkCanon(t, mixed("a", "b"), mixed("a", "b"))
	checkCanon(t, []api.RuleTwo{window(60, 2)}, []api.RuleTwo{window(1, 3)})
	checkCanon(t, []api.RuleTwo{window(60000, 1)}, []api.RuleTwo{window(1, 3)})
	checkCanon(t, []api.RuleTwo{window(120000, 1)}, []api.RuleTwo{window(2, 3)})
	checkCanon(t, []api.RuleTwo{window(1500, 1)}, []api.RuleTwo{window(1500, 1)})
	checkCanon(t, []api.RuleTwo{window(15000, 1)}, []api.RuleTwo{window(15, 2)})
	checkCanon(t, []api.RuleTwo{window(61, 2)}, []api.RuleTwo{window(61, 2)})
	checkCanon(t, []api.RuleTwo{window(1, 1)}, []api.RuleTwo{window(1, 1)})
	checkCanon(t, []api.RuleTwo{window(86400000, 1)}, []api.RuleTwo{window(1440, 3)})
	checkCanon(t, []api.RuleTwo{window(86400, 2)}, []api.RuleTwo{window(1440, 3)})
	checkCanon(t, []api.RuleTwo{window(86399999, 1)}, []api.RuleTwo{window(86399999, 1)})
	checkCanon(t, []api.RuleTwo{window(86399, 2)}, []api.RuleTwo{window(86399, 2)})
	checkCanon(t, []api.RuleTwo{{Id: "a", Match: "/", Kind: 1, Window: 1, Unit: 1}}, []api.RuleTwo{{Id: "a", Match: "/", Kind: 1, Window: 1, Unit: 1, Burst: 1}})
	checkCanon(t, []api.RuleTwo{{Id: "a", Match: "/", Kind: 1, Limit: 5, Window: 1, Unit: 3}}, []api.RuleTwo{{Id: "a", Match: "/", Kind: 1, Limit: 5, Window: 1, Unit: 3, Burst: 5}})
	checkCanon(t, []api.RuleTwo{{Id: "a", Match: "/", Kind: 1, Limit: 5, Window: 1, Unit: 3, Burst: 3}}, []api.RuleTwo{{Id: "a", Match: "/", Kind: 1, Limit: 5, Window: 1, Unit: 3, Burst: 3}})
	checkCanon(t, []api.RuleTwo{{Id: "a", Match: "/", Kind: 2, Limit: 5}}, []api.RuleTwo{{Id: "a", Match: "/", Kind: 2, Limit: 5}})
}

// TestCanonOfWindows: of each number of seconds and minutes, and of those of ticks in steps and about whole seconds and minutes.
func TestCanonOfWindows(t *testing.T) {
	check := func(n, u int) {
		ticks, e := unit.Ticks(n, u)
		if e != api.OK {
			return
		}
		want := window(unit.Norm(ticks))
		checkCanon(t, []api.RuleTwo{window(n, u)}, []api.RuleTwo{want})
		checkIs(t, []api.RuleTwo{window(n, u)}, window(n, u) == want)
		checkIs(t, []api.RuleTwo{want}, true)
	}
	for n := 1; n <= 86400; n++ {
		check(n, api.UnitTick)
		check(n, api.UnitSecond)
		check(n, api.UnitMinute)
		check(n*1000, api.UnitTick)
		check(n*997, api.UnitTick)
	}
	for n := 1; n <= 1440; n++ {
		for off := -2; off <= 2; off++ {
			check(n*60000+off, api.UnitTick)
			check(n*60+off, api.UnitSecond)
			checkSet(t, window(n*60000+off, api.UnitTick))
			checkSet(t, window(n*60+off, api.UnitSecond))
		}
	}
}

// TestCanonOfBursts: with each small limit, and with great ones in steps; a burst that is there stays, also if it is greater or less than the limit.
func TestCanonOfBursts(t *testing.T) {
	for n := 0; n <= 1000000; n += 1 + n/1000 {
		for _, burst := range []int{0, 1, 2, n, max(n-1, 0), min(n+1, 1000000), 1000000} {
			r := rate("a")
			r.Limit, r.Burst = n, burst
			want := r
			if burst == 0 {
				want.Burst = max(n, 1)
			}
			checkCanon(t, []api.RuleTwo{r}, []api.RuleTwo{want})
			checkIs(t, []api.RuleTwo{r}, burst != 0)
		}
	}
}

// TestCanonOfCaps: they have no burst and no window, also not in their canonical form.
func TestCanonOfCaps(t *testing.T) {
	for n := 1; n <= 1000000; n += 1 + n/1000 {
		c := limit("a")
		c.Limit = n
		checkCanon(t, []api.RuleTwo{c}, []api.RuleTwo{c})
		checkIs(t, []api.RuleTwo{c}, true)
	}
}

// TestCanonLeavesTheRest: ids, notes, patterns, ranks, kinds and limits are as they were, each in its rule.
func TestCanonLeavesTheRest(t *testing.T) {
	r := rand.New(rand.NewSource(3))
	for range 10000 {
		l := distinct(setAtRandom(r, r.Intn(6)))
		form, _, _ := Canon(l)
		if len(form) != len(l) {
			t.Fatalf("Canon(%s) = %s", told(l), told(form))
		}
		for _, got := range form {
			at := slices.IndexFunc(l, func(r api.RuleTwo) bool { return r.Id == got.Id })
			if at < 0 {
				t.Fatalf("Canon(%s) = %s", told(l), told(form))
			}
			want := l[at]
			want.Window, want.Unit = got.Window, got.Unit
			if want.Kind == 1 && want.Burst == 0 {
				want.Burst = got.Burst
			}
			if got != want {
				t.Fatalf("Canon(%s) = %s", told(l), told(form))
			}
		}
	}
}

// TestCanonSorts: bytewise, whatever the kinds, ranks and patterns are.
func TestCanonSorts(t *testing.T) {
	ascending := mixed("a", "a-", "a.", "a0", "a9", "a_", "aa", "ab", "b", "z", "z-", "zz")
	for i := range ascending {
		ascending[i].Rank = 1000 - i
		ascending[i].Match = "/" + strings.Repeat("z", 20-i)
	}
	r := rand.New(rand.NewSource(4))
	for range 2000 {
		l := slices.Clone(ascending)
		r.Shuffle(len(l), func(i, j int) { l[i], l[j] = l[j], l[i] })
		checkCanon(t, l, ascending)
	}
	for a := range 12 {
		for b := range 12 {
			if a != b {
				checkCanon(t, []api.RuleTwo{ascending[a], ascending[b]}, []api.RuleTwo{ascending[min(a, b)], ascending[max(a, b)]})
			}
		}
	}
}

func TestCanonOfFullSets(t *testing.T) {
	want := many(4096)
	l := slices.Clone(want)
	slices.Reverse(l)
	checkCanon(t, l, want)
	r := rand.New(rand.NewSource(5))
	for range 10 {
		r.Shuffle(len(l), func(i, j int) { l[i], l[j] = l[j], l[i] })
		checkCanon(t, l, want)
		checkIs(t, l, false)
	}
}

// TestCanonOfEachFault: beside an error there are no rules, not even the ones ahead of it.
func TestCanonOfEachFault(t *testing.T) {
	for field := range 9 {
		for how := range 24 {
			for at := range 5 {
				l := mixed("e", "d", "c", "b", "a")
				spoil(&l[at], field, how)
				path, e := ruleOf(l[at])
				checkWrong(t, l, fmt.Sprintf("/%d%s", at, path), e)
				form, _, _ := Canon(l)
				if form != nil {
					t.Fatalf("Canon(%s) = %s", told(l), told(form))
				}
			}
		}
	}
}

// P24.3

func TestIsExamples(t *testing.T) {
	checkIs(t, nil, true)
	checkIs(t, []api.RuleTwo{}, true)
	checkIs(t, mixed("a"), true)
	checkIs(t, mixed("a", "b", "c"), true)
	checkIs(t, mixed("b", "a"), false)
	checkIs(t, mixed("a", "c", "b"), false)
	checkIs(t, mixed("a", "a"), false)
	checkIs(t, make([]api.RuleTwo, 1), false)
	checkIs(t, []api.RuleTwo{window(60, 2)}, false)
	checkIs(t, []api.RuleTwo{window(1, 3)}, true)
	checkIs(t, []api.RuleTwo{window(1000, 1)}, false)
	checkIs(t, []api.RuleTwo{window(1, 2)}, true)
	checkIs(t, []api.RuleTwo{window(999, 1)}, true)
	checkIs(t, []api.RuleTwo{{Id: "a", Match: "/", Kind: 1, Window: 1, Unit: 1}}, false)
	checkIs(t, []api.RuleTwo{{Id: "a", Match: "/", Kind: 1, Window: 1, Unit: 1, Burst: 1}}, true)
	checkIs(t, []api.RuleTwo{{Id: "a", Match: "/", Kind: 2, Limit: 1}}, true)
	checkIs(t, []api.RuleTwo{{Id: "a", Match: "/", Kind: 2, Limit: 1, Burst: 1}}, false)
	checkIs(t, many(4096), true)
	checkIs(t, many(4097), false)
}

// TestIsOfRulesThatAreNotCanonical: in each place, in each way.
func TestIsOfRulesThatAreNotCanonical(t *testing.T) {
	ways := []func(r *api.RuleTwo){
		func(r *api.RuleTwo) { r.Burst = 0 },
		func(r *api.RuleTwo) { r.Limit, r.Burst = 0, 0 },
		func(r *api.RuleTwo) { r.Window, r.Unit = 60, 2 },
		func(r *api.RuleTwo) { r.Window, r.Unit = 86400, 2 },
		func(r *api.RuleTwo) { r.Window, r.Unit = 1000, 1 },
		func(r *api.RuleTwo) { r.Window, r.Unit = 60000, 1 },
		func(r *api.RuleTwo) { r.Window, r.Unit = 86400000, 1 },
	}
	for _, way := range ways {
		for size := 1; size <= 6; size++ {
			for at := 0; at < size; at += 2 { // the rates
				l := mixed("a", "b", "c", "d", "e", "f")[:size]
				checkIs(t, l, true)
				way(&l[at])
				checkIs(t, l, false)
				checkCheck(t, l, "", api.OK)
				form, _, _ := Canon(l)
				checkIs(t, form, true)
			}
		}
	}
}

// TestIsOfEachPlace: in a long set one rate alone is not canonical, or one rule alone is not ahead of the next one.
func TestIsOfEachPlace(t *testing.T) {
	for _, size := range []int{40, 4096} {
		l := many(size)
		for at := 0; at < size; at += 1 + at/30 {
			if held := l[at]; held.Kind == 1 {
				l[at].Burst = 0
				checkIs(t, l, false)
				l[at] = held
				l[at].Window, l[at].Unit = 5000, 1
				checkIs(t, l, false)
				l[at] = held
			}
			if at > 0 {
				l[at-1], l[at] = l[at], l[at-1]
				checkIs(t, l, false)
				l[at-1], l[at] = l[at], l[at-1]
			}
		}
		checkIs(t, l, true)
	}
}

// TestIsOfEachFault: what is not valid is not canonical.
func TestIsOfEachFault(t *testing.T) {
	for field := range 9 {
		for how := range 24 {
			for at := range 4 {
				l := mixed("a", "b", "c", "d")
				spoil(&l[at], field, how)
				checkIs(t, l, false)
			}
		}
	}
}

// TestIsOfEachOrder: of all orders, only the ascending one.
func TestIsOfEachOrder(t *testing.T) {
	ascending := mixed("a", "b", "b-", "ba", "c", "d")
	count := 0
	orders(slices.Clone(ascending), 0, func(l []api.RuleTwo) {
		checkIs(t, l, slices.Equal(l, ascending))
		if Is(l) {
			count++
		}
	})
	if count != 1 {
		t.Fatalf("%d orders are canonical", count)
	}
}

func TestIsAtRandom(t *testing.T) {
	r := rand.New(rand.NewSource(6))
	for range 20000 {
		l := setAtRandom(r, r.Intn(4))
		checkIs(t, l, isOf(l))
		form, _, _ := Canon(distinct(l))
		checkIs(t, form, true)
		if len(form) > 0 {
			*numbers[r.Intn(6)].of(&form[r.Intn(len(form))]) = []int{0, 1, 2, 3, 60, 1000, 60000, 1000000, r.Intn(100000000)}[r.Intn(9)]
			checkIs(t, form, isOf(form))
		}
	}
}

// P24.4 (Kind)

func TestKindExamples(t *testing.T) {
	checkKind(t, api.KindBucket, "rate")
	checkKind(t, api.KindCap, "cap")
	checkKind(t, api.KindBreaker, "")
	checkKind(t, 0, "")
	checkKind(t, 3, "")
	checkKind(t, -1, "")
}

func TestKindOfOtherNumbers(t *testing.T) {
	for _, k := range noKinds() {
		checkKind(t, k, "")
	}
	r := rand.New(rand.NewSource(7))
	for range 100000 {
		k := int(r.Uint64()) >> r.Intn(64)
		checkKind(t, k, kindOf(k))
	}
}

// P24.4 (KindOf)

func TestKindOfExamples(t *testing.T) {
	checkKindOf(t, "rate", api.KindBucket)
	checkKindOf(t, "cap", api.KindCap)
	for _, s := range []string{"", " ", "r", "c", "Rate", "RATE", "CAP", "rates", "caps", "rate ", " cap", "cap\n", "cap\x00", "\x00cap", "1", "2", "ratecap", "bucket", "breaker", "none", "\xff", "c\u00e4p"} {
		checkKindOf(t, s, 0)
	}
}

// TestKindOfNamesWithAnotherByte: one byte of a name is another one, is left out, or is put in.
func TestKindOfNamesWithAnotherByte(t *testing.T) {
	for _, name := range []string{"rate", "cap"} {
		for at := range len(name) {
			checkKindOf(t, name[:at]+name[at+1:], 0)
			checkKindOf(t, name[:at], 0)
			checkKindOf(t, name[at+1:], 0)
			for b := range 256 {
				s := name[:at] + string([]byte{byte(b)}) + name[at+1:]
				checkKindOf(t, s, numberOf(s))
			}
		}
		for at := range len(name) + 1 {
			for b := range 256 {
				checkKindOf(t, name[:at]+string([]byte{byte(b)})+name[at:], 0)
			}
		}
	}
}

func TestKindOfAllShortStrings(t *testing.T) {
	all := []string{""}
	for from, size := 0, 1; size <= 6; size++ {
		to := len(all)
		for _, s := range all[from:to] {
			for _, letter := range "ratecp" {
				all = append(all, s+string(letter))
			}
		}
		from = to
	}
	for a := range 256 {
		all = append(all, string([]byte{byte(a)}))
		for b := range 256 {
			all = append(all, string([]byte{byte(a), byte(b)}))
		}
	}
	for _, s := range all {
		checkKindOf(t, s, numberOf(s))
	}
}

func TestKindAndKindOfAreInverses(t *testing.T) {
	for k := 1; k <= 2; k++ {
		checkKindOf(t, strings.Clone(Kind(k)), k)
		checkKindOf(t, ("x" + Kind(k) + "x")[1:1+len(Kind(k))], k)
	}
	for _, s := range []string{"rate", "cap"} {
		checkKind(t, KindOf(s), s)
	}
}

// P24.5

func TestCanonicalFormsAreTheirOwn(t *testing.T) {
	r := rand.New(rand.NewSource(8))
	for range 10000 {
		l := distinct(setAtRandom(r, r.Intn(20)))
		form, path, e := Canon(l)
		if path != "" || e != api.OK || len(form) != len(l) {
			t.Fatalf("Canon(%s) = %s, %q, %d", told(l), told(form), path, e)
		}
		checkCanon(t, form, form)
		checkIs(t, form, true)
		for i := 1; i < len(form); i++ {
			if form[i-1].Id >= form[i].Id {
				t.Fatalf("Canon(%s) = %s: not ascending at %d", told(l), told(form), i)
			}
		}
	}
}

// TestTheFormDoesNotDependOnTheOrder: all orders of a few rules, and some of more.
func TestTheFormDoesNotDependOnTheOrder(t *testing.T) {
	r := rand.New(rand.NewSource(9))
	for size := range 7 {
		for range 5 {
			l := distinct(setAtRandom(r, size))
			form, _, _ := Canon(l)
			orders(l, 0, func(l []api.RuleTwo) { checkCanon(t, l, form) })
		}
	}
	for range 100 {
		l := distinct(setAtRandom(r, 200))
		form, _, _ := Canon(l)
		for range 3 {
			r.Shuffle(len(l), func(i, j int) { l[i], l[j] = l[j], l[i] })
			checkCanon(t, l, form)
		}
	}
}

// TestWindowsKeepTheirLengths: by unit.Ticks, and windows of one length have one form.
func TestWindowsKeepTheirLengths(t *testing.T) {
	length := func(r api.RuleTwo) int {
		ticks, _ := unit.Ticks(r.Window, r.Unit)
		return ticks
	}
	check := func(r api.RuleTwo) {
		form, _, _ := Canon([]api.RuleTwo{r})
		if len(form) != 1 || length(form[0]) != length(r) || length(r) != ticksOf(r.Window, r.Unit) {
			t.Fatalf("Canon of %+v = %s", r, told(form))
		}
	}
	r := rand.New(rand.NewSource(10))
	for range 100000 {
		check(ruleAtRandom(r))
		check(window(1+r.Intn(86400000), 1))
	}
	for n := 1; n <= 1440; n++ {
		want := []api.RuleTwo{window(n, 3)}
		checkCanon(t, []api.RuleTwo{window(n, 3)}, want)
		checkCanon(t, []api.RuleTwo{window(n*60, 2)}, want)
		checkCanon(t, []api.RuleTwo{window(n*60000, 1)}, want)
	}
}

// R1, R3 and R4

// checkEnds fails if a call takes too long.
func checkEnds(t *testing.T, what string, call func()) {
	t.Helper()
	done := make(chan bool)
	go func() {
		call()
		close(done)
	}()
	select {
	case <-done:
	case <-time.After(20 * time.Second):
		t.Fatalf("%s does not end", what)
	}
}

func TestGreatArgumentsEnd(t *testing.T) {
	huge := make([]api.RuleTwo, 1<<21)
	for i := range huge {
		huge[i].Id = "a"
	}
	full := many(4096)
	long := strings.Repeat("/a", 1<<26)
	wrong := map[string]api.RuleTwo{"/0/id": rate("a"), "/0/note": rate("a"), "/0/match": rate("a")}
	checkEnds(t, "a call with many rules", func() {
		checkHuge(t, huge)
		for range 100 {
			if !Is(full) {
				t.Error("Is of a full set")
			}
		}
		for want, r := range wrong {
			e := api.ErrLong
			switch want {
			case "/0/id":
				r.Id, e = long[1:], api.ErrId
			case "/0/note":
				r.Note = long
			case "/0/match":
				r.Match, e = long, api.ErrRoute
			}
			for range 1000 {
				if path, got := Check([]api.RuleTwo{r, limit("b")}); path != want || got != e {
					t.Errorf("Check: %q, %d", path, got)
				}
			}
		}
		for range 10 {
			if KindOf(long) != 0 || KindOf("rate"+long) != 0 {
				t.Error("KindOf a long string")
			}
		}
	})
}

// checkHuge sees that l has too many rules, before they are looked at.
func checkHuge(t *testing.T, l []api.RuleTwo) {
	if path, e := Check(l); path != "" || e != api.ErrMany {
		t.Errorf("Check: %q, %d", path, e)
	}
	if form, path, e := Canon(l); len(form) != 0 || path != "" || e != api.ErrMany {
		t.Errorf("Canon: %q, %d", path, e)
	}
	if Is(l) {
		t.Error("Is of too many rules")
	}
}

// TestNumbersAtTheLimitsEnd: each two fields have any of the numbers at which arithmetic ends.
func TestNumbersAtTheLimitsEnd(t *testing.T) {
	ends := []int{math.MinInt, math.MinInt + 1, -1, 0, 1, math.MaxInt - 1, math.MaxInt}
	for _, a := range numbers {
		for _, b := range numbers {
			for _, first := range both() {
				for _, n := range ends {
					for _, m := range ends {
						r := first
						*a.of(&r), *b.of(&r) = n, m
						checkSet(t, r)
						checkSet(t, limit("b"), r)
						checkSet(t, r, r)
					}
				}
			}
		}
	}
}

// inside tells whether s lies in the memory of all.
func inside(s, all string) bool {
	at, from := uintptr(unsafe.Pointer(unsafe.StringData(s))), uintptr(unsafe.Pointer(unsafe.StringData(all)))
	return s != "" && at >= from && at < from+uintptr(len(all))
}

// TestCanonicalFormsAreNewMemory: neither the list nor a string in it is that of the argument.
func TestCanonicalFormsAreNewMemory(t *testing.T) {
	r := rand.New(rand.NewSource(11))
	for i := range 3000 {
		l := distinct(setAtRandom(r, r.Intn(6)))
		if i%2 == 0 {
			l, _, _ = Canon(l) // what is canonical already is copied too
		}
		all := ""
		for _, r := range l {
			all += r.Id + r.Note + r.Match
		}
		left := all
		piece := func(s string) string {
			s, left = left[:len(s)], left[len(s):]
			return s
		}
		for i := range l {
			l[i].Id, l[i].Note, l[i].Match = piece(l[i].Id), piece(l[i].Note), piece(l[i].Match)
		}
		form, _, _ := Canon(l)
		for _, r := range form {
			if inside(r.Id, all) || inside(r.Note, all) || inside(r.Match, all) {
				t.Fatalf("Canon(%s) shares a string", told(l))
			}
		}
		held := slices.Clone(l)
		for i := range form {
			form[i] = api.RuleTwo{Id: "changed"}
		}
		if !slices.Equal(l, held) {
			t.Fatalf("Canon(%s) shares the list", told(held))
		}
	}
}

// TestArgumentsStayAsTheyWere: the rules, their order, and what lies behind the end of the list.
func TestArgumentsStayAsTheyWere(t *testing.T) {
	r := rand.New(rand.NewSource(12))
	for range 3000 {
		room := setAtRandom(r, r.Intn(12))
		l := room[:r.Intn(len(room)+1)]
		if kept := distinct(l); r.Intn(2) == 0 {
			copy(l, kept)
			l = l[:len(kept)]
		}
		held := slices.Clone(room)
		form, path, e := Canon(l)
		at, wrong := Check(l)
		is := Is(l)
		for i := range form {
			form[i].Id += "z"
		}
		_ = append(form, api.RuleTwo{Id: "behind"})
		if !slices.Equal(room, held) {
			t.Fatalf("%s has become %s", told(held), told(room))
		}
		clear(room)
		want, wantPath, wantE := canonOf(held[:len(l)])
		for i := range want {
			want[i].Id += "z"
		}
		if !slices.Equal(form, want) || path != wantPath || e != wantE || at != wantPath || wrong != wantE || is != isOf(held[:len(l)]) {
			t.Fatalf("of %s: %s, %q, %d; %q, %d; %t", told(held[:len(l)]), told(form), path, e, at, wrong, is)
		}
	}
}

// TestStringsStayAsTheyWere: though the bytes of the argument become others.
func TestStringsStayAsTheyWere(t *testing.T) {
	for _, ids := range [][]string{{"bc", "ab"}, {"ab", "bc"}, {"ab", "ab"}, {"ab", "BC"}, {"a", "b"}} {
		first, second, note, match := []byte(ids[0]), []byte(ids[1]), []byte("note"), []byte("/match/*")
		l := mixed(unsafe.String(&first[0], len(first)), unsafe.String(&second[0], len(second)))
		l[0].Note, l[1].Match = unsafe.String(&note[0], len(note)), unsafe.String(&match[0], len(match))
		form, fault, e := Canon(l)
		at, wrong := Check(l)
		for _, bytes := range [][]byte{first, second, note, match} {
			clear(bytes)
		}
		l = mixed(ids...)
		l[0].Note, l[1].Match = "note", "/match/*"
		want, wantPath, wantE := canonOf(l)
		if !slices.Equal(form, want) || fault != wantPath || e != wantE || at != wantPath || wrong != wantE {
			t.Fatalf("of %q: %s, %q, %d; %q, %d", ids, told(form), fault, e, at, wrong)
		}
	}
}

// TestSameAnswerEachTime: whatever is called in between, also at the same time.
func TestSameAnswerEachTime(t *testing.T) {
	shared := distinct(setAtRandom(rand.New(rand.NewSource(13)), 50))
	sharedForm, _, _ := canonOf(shared)
	done := make(chan bool)
	for worker := range 8 {
		go func() {
			defer func() { done <- true }()
			r := rand.New(rand.NewSource(int64(worker)))
			for range 1000 {
				l := setAtRandom(r, r.Intn(10))
				if r.Intn(2) == 0 {
					l = distinct(l)
				}
				want, path, e := canonOf(l)
				form, got, wrong := Canon(l)
				if !slices.Equal(form, want) || got != path || wrong != e || Is(l) != isOf(l) {
					t.Errorf("of %s: %s, %q, %d", told(l), told(form), got, wrong)
					return
				}
				if form, _, e := Canon(shared); e != api.OK || !slices.Equal(form, sharedForm) {
					t.Errorf("of %s: %s, %d", told(shared), told(form), e)
					return
				}
				if k := r.Intn(5) - 1; Kind(k) != kindOf(k) || KindOf(Kind(k)) != numberOf(kindOf(k)) {
					t.Errorf("of the kind %d: %q", k, Kind(k))
					return
				}
			}
		}()
	}
	for range 8 {
		<-done
	}
}
