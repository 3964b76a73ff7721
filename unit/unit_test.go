package unit

import (
	"math"
	"math/big"
	"math/rand"
	"strings"
	"testing"
	"time"
	"unsafe"

	"stoplog/api"
)

// What the functions must answer, by the chapter's own words.

const most = 86400000

// sizeOf is how many ticks the unit has, or 0 if there is no such unit.
func sizeOf(unit int) int {
	switch unit {
	case 1:
		return 1
	case 2:
		return 1000
	case 3:
		return 60000
	}
	return 0
}

// ticksOf counts in numbers without a limit.
func ticksOf(n, unit int) (int, api.Errno) {
	if sizeOf(unit) == 0 {
		return 0, api.ErrKind
	}
	ticks := new(big.Int).Mul(big.NewInt(int64(n)), big.NewInt(int64(sizeOf(unit))))
	if n < 1 || ticks.Cmp(big.NewInt(most)) > 0 {
		return 0, api.ErrRange
	}
	return int(ticks.Int64()), api.OK
}

// normOf tries the units from the greatest one on.
func normOf(ticks int) (int, int) {
	switch {
	case ticks < 1:
		ticks = 1
	case ticks > most:
		ticks = most
	}
	switch {
	case ticks/60000*60000 == ticks:
		return ticks / 60000, 3
	case ticks/1000*1000 == ticks:
		return ticks / 1000, 2
	}
	return ticks, 1
}

func nameOf(unit int) string {
	switch unit {
	case 1:
		return "tick"
	case 2:
		return "second"
	case 3:
		return "minute"
	}
	return ""
}

func parseOf(s string) int {
	switch s {
	case "tick":
		return 1
	case "second":
		return 2
	case "minute":
		return 3
	}
	return 0
}

// Checks of one call each.

func checkTicks(t *testing.T, n, unit, want int, wrong api.Errno) {
	t.Helper()
	if got, err := Ticks(n, unit); got != want || err != wrong {
		t.Fatalf("Ticks(%d, %d) = %d, %d, want %d, %d", n, unit, got, err, want, wrong)
	}
}

// checkTicksOf holds Ticks against the oracle.
func checkTicksOf(t *testing.T, n, unit int) {
	t.Helper()
	want, wrong := ticksOf(n, unit)
	checkTicks(t, n, unit, want, wrong)
}

func checkNorm(t *testing.T, ticks, want, unit int) {
	t.Helper()
	if n, u := Norm(ticks); n != want || u != unit {
		t.Fatalf("Norm(%d) = %d, %d, want %d, %d", ticks, n, u, want, unit)
	}
}

// checkNormOf holds Norm against the oracle.
func checkNormOf(t *testing.T, ticks int) {
	t.Helper()
	want, unit := normOf(ticks)
	checkNorm(t, ticks, want, unit)
}

func checkName(t *testing.T, unit int, want string) {
	t.Helper()
	if got := Name(unit); got != want {
		t.Fatalf("Name(%d) = %q, want %q", unit, got, want)
	}
}

func checkParse(t *testing.T, s string, want int) {
	t.Helper()
	if got := Parse(s); got != want {
		t.Fatalf("Parse(%q) = %d, want %d", s, got, want)
	}
}

// What is tried.

// edges are numbers about the limits of everything that counts here, and of int, with either sign.
func edges() []int {
	var list []int
	for _, n := range []int{
		0, 1000, 1440, 2000, 3000, 30000, 59000, 60000, 61000, 86400, 100000, 119000, 120000, 1 << 20, 3600000, 6000000, 60000000, most - 60000, most - 1000, most, most + 1000, most + 60000, 2 * most,
		1 << 16, 1 << 31, 1 << 32, 1 << 40, 1 << 62, math.MaxInt - 10, math.MaxInt / 1000, math.MaxInt / 60000, math.MaxInt / most,
		1 << 61, 1 << 59, 1 << 58, // times 60000, cut to 64 bits, a small number
	} {
		for off := -10; off <= 10; off++ {
			list = append(list, n+off, -n+off)
		}
	}
	for shift := range 64 {
		list = append(list, 1<<shift-1, 1<<shift, 1<<shift+1, -1<<shift, -1<<shift+1)
	}
	return append(list, math.MinInt, math.MinInt+1, math.MaxInt)
}

// wrap are numbers whose ticks, cut to 64 bits, are from 1 to most, or 0, though they have many more.
func wrap(unit int) []int {
	var list []int
	size := big.NewInt(int64(sizeOf(unit)))
	turn := new(big.Int).Lsh(big.NewInt(1), 64)
	for turns := int64(1); turns < int64(sizeOf(unit)/2); turns += 1 + int64(sizeOf(unit)/500) {
		n := new(big.Int).Mul(turn, big.NewInt(turns))
		n.Add(n, size).Div(n, size)
		if n.IsInt64() {
			list = append(list, int(n.Int64()), int(n.Int64())-1, int(n.Int64())+1, -int(n.Int64()), -int(n.Int64())+1)
		}
	}
	return list
}

// numbersAtRandom are some of each size, with either sign.
func numbersAtRandom(r *rand.Rand, count int) []int {
	list := make([]int, count)
	for i := range list {
		list[i] = int(r.Uint64()) >> r.Intn(64)
	}
	return list
}

// noUnits are numbers without a unit.
func noUnits() []int {
	var list []int
	for _, unit := range edges() {
		if sizeOf(unit) == 0 {
			list = append(list, unit)
		}
	}
	for unit := range 70000 {
		list = append(list, unit+4, -unit)
	}
	for shift := 2; shift < 64; shift++ {
		list = append(list, 1<<shift+1, 1<<shift+2, 1<<shift+3, -1<<shift+1, -1<<shift+2, -1<<shift+3)
	}
	return list
}

// wrongs are strings that are no names of units.
var wrongs = []string{
	"", " ", "t", "ti", "tic", "tickk", "ticks", "Tick", "TICK", "tIck", "tick ", " tick", "tick\n", "tick\x00", "\x00tick", "s", "sec", "seconds", "Second", "SECOND", "secon", "econd", "sekond", "second ",
	"m", "min", "minutes", "Minute", "MINUTE", "minut", "inute", "minute\x00", "ms", "hour", "day", "millisecond", "0", "1", "2", "3", "tick,second", "ticksecondminute", "second minute", "none", "unit", "\xff", "t\u00efck",
}

// P20.1

func TestTicksExamples(t *testing.T) {
	checkTicks(t, 1440, api.UnitMinute, 86400000, api.OK)
	checkTicks(t, 1441, api.UnitMinute, 0, api.ErrRange)
	checkTicks(t, 86400, api.UnitSecond, 86400000, api.OK)
	checkTicks(t, 86401, api.UnitSecond, 0, api.ErrRange)
	checkTicks(t, 86400000, api.UnitTick, 86400000, api.OK)
	checkTicks(t, 86400001, api.UnitTick, 0, api.ErrRange)
	checkTicks(t, 1, api.UnitTick, 1, api.OK)
	checkTicks(t, 1, api.UnitSecond, 1000, api.OK)
	checkTicks(t, 1, api.UnitMinute, 60000, api.OK)
	checkTicks(t, 2, api.UnitMinute, 120000, api.OK)
	checkTicks(t, 60, api.UnitSecond, 60000, api.OK)
	for unit := 1; unit <= 3; unit++ {
		for _, n := range []int{0, -1, -60, math.MinInt, math.MinInt + 1, math.MaxInt, math.MaxInt - 1} {
			checkTicks(t, n, unit, 0, api.ErrRange)
		}
	}
}

// TestTicksOfNoUnit: that there is no such unit counts ahead of what is wrong with n.
func TestTicksOfNoUnit(t *testing.T) {
	for _, unit := range noUnits() {
		for _, n := range []int{1, 0, -1, 1440, 1441, most, most + 1, math.MinInt, math.MaxInt} {
			checkTicks(t, n, unit, 0, api.ErrKind)
		}
	}
}

func TestTicksAboutTheLimits(t *testing.T) {
	for _, n := range edges() {
		for unit := -2; unit <= 6; unit++ {
			checkTicksOf(t, n, unit)
		}
	}
}

func TestTicksOfNumbersThatWrapRound(t *testing.T) {
	for unit := 2; unit <= 3; unit++ {
		list := wrap(unit)
		if len(list) < 100 {
			t.Fatalf("only %d numbers", len(list))
		}
		for _, n := range list {
			checkTicks(t, n, unit, 0, api.ErrRange)
			checkTicksOf(t, n, unit)
		}
	}
}

func TestTicksOfEachNumber(t *testing.T) {
	for unit := 1; unit <= 3; unit++ {
		size := sizeOf(unit)
		for n := 1; n*size <= most; n++ {
			if got, err := Ticks(n, unit); got != n*size || err != api.OK {
				t.Fatalf("Ticks(%d, %d) = %d, %d", n, unit, got, err)
			}
		}
		for n := range 100000 {
			checkTicks(t, most/size+1+n, unit, 0, api.ErrRange)
			checkTicks(t, -n, unit, 0, api.ErrRange)
		}
	}
}

func TestTicksAtRandom(t *testing.T) {
	r := rand.New(rand.NewSource(1))
	for _, n := range numbersAtRandom(r, 100000) {
		checkTicksOf(t, n, r.Intn(5))
		checkTicksOf(t, n, int(r.Uint64())>>r.Intn(64))
	}
}

// P20.2

func TestNormExamples(t *testing.T) {
	checkNorm(t, -5, 1, api.UnitTick)
	checkNorm(t, 0, 1, api.UnitTick)
	checkNorm(t, 1, 1, api.UnitTick)
	checkNorm(t, 2, 2, api.UnitTick)
	checkNorm(t, 999, 999, api.UnitTick)
	checkNorm(t, 1000, 1, api.UnitSecond)
	checkNorm(t, 1001, 1001, api.UnitTick)
	checkNorm(t, 1500, 1500, api.UnitTick)
	checkNorm(t, 2000, 2, api.UnitSecond)
	checkNorm(t, 59000, 59, api.UnitSecond)
	checkNorm(t, 59999, 59999, api.UnitTick)
	checkNorm(t, 60000, 1, api.UnitMinute)
	checkNorm(t, 60001, 60001, api.UnitTick)
	checkNorm(t, 61000, 61, api.UnitSecond)
	checkNorm(t, 90000, 90, api.UnitSecond)
	checkNorm(t, 120000, 2, api.UnitMinute)
	checkNorm(t, 3600000, 60, api.UnitMinute)
	checkNorm(t, most-1, most-1, api.UnitTick)
	checkNorm(t, most-1000, 86399, api.UnitSecond)
	checkNorm(t, most-60000, 1439, api.UnitMinute)
	checkNorm(t, most, 1440, api.UnitMinute)
	checkNorm(t, most+1, 1440, api.UnitMinute)
	checkNorm(t, most+1000, 1440, api.UnitMinute)
	checkNorm(t, 2*most, 1440, api.UnitMinute)
	checkNorm(t, 1<<40, 1440, api.UnitMinute)
	checkNorm(t, math.MaxInt, 1440, api.UnitMinute)
	checkNorm(t, math.MinInt, 1, api.UnitTick)
	checkNorm(t, -60000, 1, api.UnitTick)
	checkNorm(t, -1000, 1, api.UnitTick)
}

func TestNormAboutTheLimits(t *testing.T) {
	for _, ticks := range edges() {
		checkNormOf(t, ticks)
	}
}

func TestNormOfEachNumber(t *testing.T) {
	for ticks := -200000; ticks <= most+200000; ticks++ {
		want, unit := normOf(ticks)
		if n, u := Norm(ticks); n != want || u != unit {
			t.Fatalf("Norm(%d) = %d, %d, want %d, %d", ticks, n, u, want, unit)
		}
	}
}

func TestNormAtRandom(t *testing.T) {
	r := rand.New(rand.NewSource(2))
	for _, ticks := range numbersAtRandom(r, 1000000) {
		checkNormOf(t, ticks)
	}
}

// P20.3 (Name)

func TestNameExamples(t *testing.T) {
	checkName(t, api.UnitTick, "tick")
	checkName(t, api.UnitSecond, "second")
	checkName(t, api.UnitMinute, "minute")
	checkName(t, 0, "")
	checkName(t, 4, "")
	checkName(t, -1, "")
}

func TestNameOfNoUnit(t *testing.T) {
	for _, unit := range noUnits() {
		checkName(t, unit, "")
	}
}

func TestNameAtRandom(t *testing.T) {
	r := rand.New(rand.NewSource(3))
	for _, unit := range numbersAtRandom(r, 100000) {
		checkName(t, unit, nameOf(unit))
	}
}

// P20.3 (Parse)

func TestParseExamples(t *testing.T) {
	checkParse(t, "tick", api.UnitTick)
	checkParse(t, "second", api.UnitSecond)
	checkParse(t, "minute", api.UnitMinute)
}

func TestParseOfWrongs(t *testing.T) {
	for _, s := range wrongs {
		checkParse(t, s, 0)
	}
}

// TestParseOfNamesWithAnotherByte: one byte of a name is another one, is left out, or is put in.
func TestParseOfNamesWithAnotherByte(t *testing.T) {
	for _, name := range []string{"tick", "second", "minute"} {
		for at := range len(name) {
			checkParse(t, name[:at]+name[at+1:], 0)
			checkParse(t, name[:at], 0)
			checkParse(t, name[at+1:], 0)
			for b := range 256 {
				s := name[:at] + string([]byte{byte(b)}) + name[at+1:]
				checkParse(t, s, parseOf(s))
			}
		}
		for at := range len(name) + 1 {
			for b := range 256 {
				checkParse(t, name[:at]+string([]byte{byte(b)})+name[at:], 0)
			}
		}
	}
}

func TestParseOfAllShortStrings(t *testing.T) {
	all := []string{""}
	for from, size := 0, 1; size <= 5; size++ {
		to := len(all)
		for _, s := range all[from:to] {
			for _, letter := range "tickseonmu" {
				all = append(all, s+string(letter))
			}
		}
		from = to
	}
	for _, s := range all {
		checkParse(t, s, parseOf(s))
	}
}

func TestParseTakesNamesInOtherMemory(t *testing.T) {
	for unit := 1; unit <= 3; unit++ {
		checkParse(t, strings.Clone(Name(unit)), unit)
		checkParse(t, ("x" + Name(unit) + "x")[1:1+len(Name(unit))], unit)
	}
}

func TestNameAndParseAreInverses(t *testing.T) {
	for unit := -1000; unit <= 1000; unit++ {
		name := Name(unit)
		if name != "" || unit == 0 {
			checkParse(t, name, unit)
		}
	}
	for _, s := range []string{"tick", "second", "minute"} {
		checkName(t, Parse(s), s)
	}
}

// P20.4

// TestTicksInvertsNorm: for each number of ticks.
func TestTicksInvertsNorm(t *testing.T) {
	for ticks := 1; ticks <= most; ticks++ {
		n, unit := Norm(ticks)
		if got, err := Ticks(n, unit); got != ticks || err != api.OK {
			t.Fatalf("Ticks(Norm(%d)) = %d, %d", ticks, got, err)
		}
	}
}

// TestTicksOfNormBeyondTheRange: the nearest number of the range comes back.
func TestTicksOfNormBeyondTheRange(t *testing.T) {
	for _, ticks := range edges() {
		n, unit := Norm(ticks)
		checkTicks(t, n, unit, max(1, min(ticks, most)), api.OK)
	}
}

// TestSameLengthSameNorm: each span in seconds and minutes has the norm that it has in ticks, and no lesser unit.
func TestSameLengthSameNorm(t *testing.T) {
	for unit := 1; unit <= 3; unit++ {
		for n := 1; n*sizeOf(unit) <= most; n++ {
			ticks, err := Ticks(n, unit)
			if err != api.OK {
				t.Fatalf("Ticks(%d, %d): %d", n, unit, err)
			}
			norm, u := Norm(ticks)
			other, v := Norm(n * sizeOf(unit))
			if norm != other || u != v || u < unit || norm > n {
				t.Fatalf("%d of unit %d: norm %d of %d, and %d of %d", n, unit, norm, u, other, v)
			}
			if u == unit && norm != n {
				t.Fatalf("%d of unit %d: norm %d", n, unit, norm)
			}
		}
	}
	for minutes := 1; minutes <= 1440; minutes++ {
		a, _ := Ticks(minutes, api.UnitMinute)
		b, _ := Ticks(minutes*60, api.UnitSecond)
		c, _ := Ticks(minutes*60000, api.UnitTick)
		if a != b || b != c {
			t.Fatalf("%d minutes are %d, %d and %d ticks", minutes, a, b, c)
		}
		checkNorm(t, a, minutes, api.UnitMinute)
	}
}

// R1, R3 and R4

// checkEnds fails if a call takes too long.
func checkEnds(t *testing.T, what string, call func()) {
	t.Helper()
	done := make(chan bool)
	go func() {
		call()
		close(done)
	}()
	select {
	case <-done:
	case <-time.After(20 * time.Second):
		t.Fatalf("%s does not end", what)
	}
}

func TestGreatArgumentsEnd(t *testing.T) {
	long := strings.Repeat("minute", 1<<24)
	checkEnds(t, "Parse", func() {
		for range 1000 {
			if Parse(long) != 0 || Parse(long[:len(long)-1]) != 0 {
				t.Error("a long string has a unit")
			}
		}
	})
	checkEnds(t, "a call with numbers at the limits", func() {
		list := []int{math.MinInt, math.MinInt + 1, -1, 0, 1, 2, 3, 4, math.MaxInt - 1, math.MaxInt}
		for _, a := range list {
			Norm(a)
			Name(a)
			for _, b := range list {
				Ticks(a, b)
			}
		}
	})
}

func TestParseLeavesItsArgument(t *testing.T) {
	for _, s := range append([]string{"tick", "second", "minute"}, wrongs...) {
		held := []byte("<" + s + ">")
		checkParse(t, unsafe.String(&held[1], len(s)), parseOf(s))
		if string(held) != "<"+s+">" {
			t.Fatalf("Parse(%q) made it %q", s, held)
		}
	}
}

// TestSameAnswerEachTime: whatever is called in between, also at the same time.
func TestSameAnswerEachTime(t *testing.T) {
	done := make(chan bool)
	for worker := range 8 {
		go func() {
			defer func() { done <- true }()
			r := rand.New(rand.NewSource(int64(worker)))
			for range 20000 {
				n, unit, ticks := r.Intn(2000)-100, r.Intn(6)-1, r.Intn(most/500)*1000-10000
				got, err := Ticks(n, unit)
				want, wrong := ticksOf(n, unit)
				norm, u := Norm(ticks)
				other, v := normOf(ticks)
				if got != want || err != wrong || norm != other || u != v || Name(unit) != nameOf(unit) || Parse(nameOf(unit)) != parseOf(nameOf(unit)) {
					t.Errorf("another answer: %d %d %d", n, unit, ticks)
					return
				}
			}
		}()
	}
	for range 8 {
		<-done
	}
}
