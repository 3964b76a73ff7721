package text

import (
	"encoding/binary"
	"math"
	"math/rand"
	"slices"
	"strings"
	"testing"
	"unicode/utf8"
	"unsafe"

	"stoplog/api"
)

// encoded is what Put must answer, by the chapter's own words.
func encoded(s string, most int) (string, api.Errno) {
	switch {
	case most < 0 && s != "", most >= 0 && len(s) > most:
		return "", api.ErrLong
	case !utf8.ValidString(s):
		return "", api.ErrText
	}
	return string(binary.AppendUvarint(nil, uint64(len(s)))) + s, api.OK
}

// encodedAll is what PutAll must answer.
func encodedAll(list []string, most int) (string, api.Errno) {
	whole := string(binary.AppendUvarint(nil, uint64(len(list))))
	for _, s := range list {
		piece, e := encoded(s, most)
		if e != api.OK {
			return "", e
		}
		whole += piece
	}
	return whole, api.OK
}

// decodedNumber is what the varint in s at the offset at must be taken for: the shortest form is the only one.
func decodedNumber(s string, at int) (uint64, int, api.Errno) {
	if at < 0 || at > len(s) {
		return 0, 0, api.ErrArg
	}
	n, size := binary.Uvarint([]byte(s[at:]))
	switch {
	case size < 0:
		return 0, 0, api.ErrOver
	case size == 0 && len(s)-at >= 10: // ten bytes with more to come
		return 0, 0, api.ErrOver
	case size == 0:
		return 0, 0, api.ErrShort
	case len(binary.AppendUvarint(nil, n)) < size:
		return 0, 0, api.ErrLong
	}
	return n, at + size, api.OK
}

// decoded is what Take must answer.
func decoded(s string, at, most int) (string, int, api.Errno) {
	n, start, e := decodedNumber(s, at)
	switch {
	case e != api.OK:
		return "", 0, e
	case n > 0 && (most < 0 || n > uint64(most)):
		return "", 0, api.ErrLong
	case n > uint64(len(s)-start):
		return "", 0, api.ErrShort
	case !utf8.ValidString(s[start : start+int(n)]):
		return "", 0, api.ErrText
	}
	return s[start : start+int(n)], start + int(n), api.OK
}

// decodedAll is what TakeAll must answer.
func decodedAll(s string, at, most int) ([]string, int, api.Errno) {
	count, next, e := decodedNumber(s, at)
	switch {
	case e != api.OK:
		return nil, 0, e
	case count > 1<<62:
		return nil, 0, api.ErrRange
	}
	list := []string{}
	for uint64(len(list)) < count {
		piece, end, e := decoded(s, next, most)
		if e != api.OK {
			return nil, 0, e
		}
		list, next = append(list, piece), end
	}
	return list, next, api.OK
}

// texts are of all widths of sequences, and of lengths at the edges of each size of their number.
func texts() []string {
	list := []string{"", "a", "\x00", "ab", "\x7f", "\xc2\x80", "\xc3\xa9", "\xe2\x82\xac", "\xf4\x8f\xbf\xbf", "\xef\xbf\xbd", "\xed\x9f\xbf", "e\xcc\x81", "a\x00b", "\x05ab", "\x01", "\"\\\n"}
	for _, length := range []int{9, 10, 126, 127, 128, 129, 254, 255, 256, 299, 300, 16382, 16383, 16384, 16385, 1 << 17} {
		list = append(list, strings.Repeat("b", length), strings.Repeat("\xc3\xa9", length/2), strings.Repeat("\xe2\x82\xac", length/3))
	}
	return list
}

// noTexts are strings that are not UTF-8.
func noTexts() []string {
	list := []string{"\xff", "\x80", "a\xff", "\xffa", "a\xc3", "\xc0\x80", "\xed\xa0\x80", "\xed\xbf\xbf", "\xf4\x90\x80\x80", "\xe2\x82", "\xc3\xa9\xa9", "\xf0\x90\x80", "\xf8\x88\x80\x80\x80", "\xe0\x80\x80"}
	return append(list, strings.Repeat("a", 200)+"\x80", "\xff"+strings.Repeat("a", 200), strings.Repeat("a", 100)+"\xfe"+strings.Repeat("a", 100))
}

// mosts are limits about a length.
func mosts(length int) []int {
	return []int{math.MinInt, math.MinInt + 1, -length - 1, -length, -1, 0, 1, length - 1, length, length + 1, 2*length + 2, 1 << 32, 1 << 62, math.MaxInt - 1, math.MaxInt}
}

func uvarint(n uint64) string {
	return string(binary.AppendUvarint(nil, n))
}

// badNumbers are what is no varint, with the error of each.
func badNumbers() map[string]api.Errno {
	full, gaps := strings.Repeat("\xff", 9), strings.Repeat("\x80", 9)
	return map[string]api.Errno{
		"":             api.ErrShort,
		"\x80":         api.ErrShort,
		"\xff":         api.ErrShort,
		full:           api.ErrShort,
		gaps:           api.ErrShort,
		"\x80\x00":     api.ErrLong,
		"\x81\x00":     api.ErrLong,
		"\x81\x80\x00": api.ErrLong,
		gaps + "\x00":  api.ErrLong,
		full + "\x02":  api.ErrOver,
		gaps + "\x80":  api.ErrOver,
		full + "\xff":  api.ErrOver,
	}
}

func checkPut(t *testing.T, s string, most int, want string, wantE api.Errno) {
	t.Helper()
	if got, e := Put(s, most); got != want || e != wantE {
		t.Errorf("Put(%.40q, %d) is %.40q of %d bytes, %d, want %.40q of %d bytes, %d", s, most, got, len(got), e, want, len(want), wantE)
	}
}

func checkTake(t *testing.T, s string, at, most int, want string, next int, wantE api.Errno) {
	t.Helper()
	if got, after, e := Take(s, at, most); got != want || after != next || e != wantE {
		t.Errorf("Take(%.40q, %d, %d) is %.40q of %d bytes, %d, %d, want %.40q of %d bytes, %d, %d", s, at, most, got, len(got), after, e, want, len(want), next, wantE)
	}
}

func checkPutAll(t *testing.T, list []string, most int, want string, wantE api.Errno) {
	t.Helper()
	if got, e := PutAll(list, most); got != want || e != wantE {
		t.Errorf("PutAll of %d texts with most %d is %.40q of %d bytes, %d, want %.40q of %d bytes, %d", len(list), most, got, len(got), e, want, len(want), wantE)
	}
}

func checkTakeAll(t *testing.T, s string, at, most int, want []string, next int, wantE api.Errno) {
	t.Helper()
	if got, after, e := TakeAll(s, at, most); !slices.Equal(got, want) || after != next || e != wantE {
		t.Errorf("TakeAll(%.40q, %d, %d) is %d texts, %d, %d, want %d texts, %d, %d", s, at, most, len(got), after, e, len(want), next, wantE)
	}
}

// P8.1

func TestPutExamples(t *testing.T) {
	checkPut(t, "ab", 9, "\x02ab", api.OK)
	checkPut(t, "ab", 2, "\x02ab", api.OK)
	checkPut(t, "ab", 1, "", api.ErrLong)
	checkPut(t, "", 0, "\x00", api.OK)
	checkPut(t, "", -1, "\x00", api.OK)
	checkPut(t, "", math.MinInt, "\x00", api.OK)
	checkPut(t, "\xff", 9, "", api.ErrText)
	checkPut(t, "a", -1, "", api.ErrLong)
	checkPut(t, "a", 0, "", api.ErrLong)
	checkPut(t, "a", math.MinInt, "", api.ErrLong)
	checkPut(t, "\x00", 1, "\x01\x00", api.OK)
	checkPut(t, strings.Repeat("a", 300), 300, "\xac\x02"+strings.Repeat("a", 300), api.OK)
}

func TestPutCountsBytesNotSequences(t *testing.T) {
	checkPut(t, "\xc3\xa9", 1, "", api.ErrLong)
	checkPut(t, "\xc3\xa9", 2, "\x02\xc3\xa9", api.OK)
	checkPut(t, "\xe2\x82\xac", 2, "", api.ErrLong)
	checkPut(t, "\xe2\x82\xac", 3, "\x03\xe2\x82\xac", api.OK)
	checkPut(t, "\xf4\x8f\xbf\xbf", 3, "", api.ErrLong)
	checkPut(t, "\xf4\x8f\xbf\xbf", 4, "\x04\xf4\x8f\xbf\xbf", api.OK)
}

func TestPutOfTextsUpToTheMost(t *testing.T) {
	for _, s := range texts() {
		for _, most := range mosts(len(s)) {
			want, e := encoded(s, most)
			checkPut(t, s, most, want, e)
		}
	}
}

func TestPutOfNoTexts(t *testing.T) {
	for _, s := range noTexts() {
		for _, most := range mosts(len(s)) {
			if most < len(s) {
				checkPut(t, s, most, "", api.ErrLong)
			} else {
				checkPut(t, s, most, "", api.ErrText)
			}
		}
	}
}

// P8.2

func TestTakeExamples(t *testing.T) {
	checkTake(t, "\x02ab", 0, 9, "ab", 3, api.OK)
	checkTake(t, "\x02ab", 0, 2, "ab", 3, api.OK)
	checkTake(t, "\x02ab", 0, 1, "", 0, api.ErrLong)
	checkTake(t, "\x02abc", 0, 9, "ab", 3, api.OK)
	checkTake(t, "\x05ab", 0, 9, "", 0, api.ErrShort)
	checkTake(t, "\x05ab", 0, 4, "", 0, api.ErrLong)
	checkTake(t, "\x05ab", 0, 5, "", 0, api.ErrShort)
	checkTake(t, "\x01\xff", 0, 9, "", 0, api.ErrText)
	checkTake(t, "\x00", 0, 0, "", 1, api.OK)
	checkTake(t, "\x00", 0, -1, "", 1, api.OK)
	checkTake(t, "\x00", 0, math.MinInt, "", 1, api.OK)
	checkTake(t, "\x01a", 0, -1, "", 0, api.ErrLong)
	checkTake(t, "\x01a", 0, math.MinInt, "", 0, api.ErrLong)
	checkTake(t, "x\x01a", 1, 9, "a", 3, api.OK)
	checkTake(t, "\xff\x01\x00", 2, 9, "", 3, api.OK)
	checkTake(t, "\x01\x01\x01\x01", 1, 9, "\x01", 3, api.OK)
}

func TestTakeOutsideTheString(t *testing.T) {
	for _, s := range []string{"", "\x00", "\x02ab", "\x05ab", "\x01\xff", "\xff"} {
		for _, most := range mosts(2) {
			for _, at := range []int{-1, -2, -10, math.MinInt, math.MinInt + 1, len(s) + 1, len(s) + 2, 1 << 32, math.MaxInt - 1, math.MaxInt} {
				checkTake(t, s, at, most, "", 0, api.ErrArg)
			}
			checkTake(t, s, len(s), most, "", 0, api.ErrShort)
		}
	}
}

func TestTakeHasTheErrorsOfTheLengthFirst(t *testing.T) {
	for s, e := range badNumbers() {
		for _, most := range mosts(2) {
			checkTake(t, s, 0, most, "", 0, e)
			checkTake(t, "\x01a"+s, 2, most, "", 0, e)
			if s != "" && s[len(s)-1] < 128 {
				checkTake(t, s+"ab", 0, most, "", 0, e)
				checkTake(t, s+"\xff", 0, most, "", 0, e)
			}
		}
	}
}

// TestTakeOfSeveralFaults has bytes with all faults from some one on: the first one counts.
func TestTakeOfSeveralFaults(t *testing.T) {
	checkTake(t, "\x05\xff", 0, 4, "", 0, api.ErrLong)
	checkTake(t, "\x01\xff", 0, 0, "", 0, api.ErrLong)
	checkTake(t, "\x01\xff", 0, -1, "", 0, api.ErrLong)
	checkTake(t, "\x05\xff", 0, 5, "", 0, api.ErrShort)
	checkTake(t, "\x02\xff", 0, 2, "", 0, api.ErrShort)
	checkTake(t, "\x01", 0, 0, "", 0, api.ErrLong)
	checkTake(t, "\x01", 0, 1, "", 0, api.ErrShort)
}

// TestTakeOfGreatLengths has lengths that overflow an int, or the offset behind the text.
func TestTakeOfGreatLengths(t *testing.T) {
	for _, n := range []uint64{1 << 20, 1<<31 - 1, 1 << 31, 1<<32 + 1, 1 << 62, math.MaxInt - 2, math.MaxInt - 1, math.MaxInt} {
		for _, tail := range []string{"", "a", "\xff"} {
			s := uvarint(n) + tail
			checkTake(t, s, 0, int(n)-1, "", 0, api.ErrLong)
			checkTake(t, s, 0, int(n), "", 0, api.ErrShort)
			checkTake(t, s, 0, math.MaxInt, "", 0, api.ErrShort)
			checkTake(t, "abc"+s, 3, math.MaxInt, "", 0, api.ErrShort)
			checkTake(t, s, 0, -1, "", 0, api.ErrLong)
		}
	}
	for _, n := range []uint64{math.MaxInt + 1, math.MaxInt + 2, math.MaxUint64 - 1, math.MaxUint64} {
		for _, most := range mosts(2) {
			checkTake(t, uvarint(n)+"a", 0, most, "", 0, api.ErrLong)
			checkTake(t, uvarint(n), 0, most, "", 0, api.ErrLong)
		}
	}
}

func TestTakeOfEachPrefix(t *testing.T) {
	for _, s := range []string{"a", "ab\xc3\xa9", "\xe2\x82\xac", strings.Repeat("b", 200)} {
		whole, _ := encoded(s, len(s))
		for end := range len(whole) {
			checkTake(t, whole[:end], 0, len(s), "", 0, api.ErrShort)
		}
	}
}

func TestTakeOfNoTexts(t *testing.T) {
	for _, s := range noTexts() {
		whole := uvarint(uint64(len(s))) + s
		for _, tail := range []string{"", "a", "\x80", "\xac", "\xbf\xbf"} {
			checkTake(t, whole+tail, 0, len(s), "", 0, api.ErrText)
			checkTake(t, "\x80"+whole+tail, 1, math.MaxInt, "", 0, api.ErrText)
		}
	}
	checkTake(t, "\x02\xe2\x82\xac", 0, 9, "", 0, api.ErrText) // the text ends within a sequence
	checkTake(t, "\x01\xc3\xa9", 0, 9, "", 0, api.ErrText)
}

// TestTakeOfStrings holds Take against the chapter's words for all strings of up to five bytes that matter.
func TestTakeOfStrings(t *testing.T) {
	pieces := []string{"", "\x00", "\x01", "\x02", "\x03", "a", "\x80", "\x81", "\xc3", "\xa9", "\xff"}
	for _, a := range pieces {
		for _, b := range pieces {
			for _, c := range pieces {
				for _, d := range pieces {
					s := a + b + c + d
					for at := -1; at <= len(s)+1; at++ {
						for _, most := range []int{-1, 0, 1, 2, 3, 200} {
							want, next, e := decoded(s, at, most)
							checkTake(t, s, at, most, want, next, e)
						}
					}
				}
			}
		}
	}
}

// P8.3

func TestPutAllExamples(t *testing.T) {
	checkPutAll(t, nil, 9, "\x00", api.OK)
	checkPutAll(t, []string{}, 0, "\x00", api.OK)
	checkPutAll(t, nil, -1, "\x00", api.OK)
	checkPutAll(t, nil, math.MinInt, "\x00", api.OK)
	checkPutAll(t, []string{""}, 0, "\x01\x00", api.OK)
	checkPutAll(t, []string{"", "a"}, 1, "\x02\x00\x01a", api.OK)
	checkPutAll(t, []string{"a", ""}, 1, "\x02\x01a\x00", api.OK)
	checkPutAll(t, []string{"ab", "ab", "c"}, 2, "\x03\x02ab\x02ab\x01c", api.OK)
	checkPutAll(t, []string{"", ""}, -1, "\x02\x00\x00", api.OK)
	checkPutAll(t, []string{"", "a"}, 0, "", api.ErrLong)
	checkPutAll(t, []string{"", "a"}, -1, "", api.ErrLong)
	checkPutAll(t, []string{"\xff"}, 9, "", api.ErrText)
	checkPutAll(t, []string{"\xc3", "\xa9"}, 9, "", api.ErrText)
}

func TestPutAllHasTheFirstError(t *testing.T) {
	checkPutAll(t, []string{"a", "abc", "\xff"}, 2, "", api.ErrLong)
	checkPutAll(t, []string{"a", "\xff", "abc"}, 2, "", api.ErrText)
	checkPutAll(t, []string{"\xff", "abc"}, 2, "", api.ErrText)
	checkPutAll(t, []string{"a", "b", "\xff\xff\xff"}, 2, "", api.ErrLong)
	checkPutAll(t, []string{"a", "b", "c", "\xff"}, 2, "", api.ErrText)
	checkPutAll(t, []string{"\xff", "a"}, 2, "", api.ErrText)
}

func TestPutAllOfManyTexts(t *testing.T) {
	for _, count := range []int{1, 2, 127, 128, 129, 300, 16383, 16384, 100000} {
		checkPutAll(t, slices.Repeat([]string{""}, count), 0, uvarint(uint64(count))+strings.Repeat("\x00", count), api.OK)
		checkPutAll(t, slices.Repeat([]string{"\xc3\xa9"}, count), 2, uvarint(uint64(count))+strings.Repeat("\x02\xc3\xa9", count), api.OK)
		checkPutAll(t, append(slices.Repeat([]string{""}, count), "ab"), 1, "", api.ErrLong)
	}
}

func TestPutAllOfLists(t *testing.T) {
	random := rand.New(rand.NewSource(1))
	choice := append(texts(), noTexts()[:2]...)
	for range 3000 {
		list := make([]string, random.Intn(5))
		for i := range list {
			list[i] = choice[random.Intn(len(choice))]
		}
		most := mosts(random.Intn(300))[random.Intn(15)]
		want, e := encodedAll(list, most)
		checkPutAll(t, list, most, want, e)
	}
}

// P8.4

func TestTakeAllExamples(t *testing.T) {
	checkTakeAll(t, "\x00", 0, 9, nil, 1, api.OK)
	checkTakeAll(t, "\x00", 0, -1, nil, 1, api.OK)
	checkTakeAll(t, "\x00\x00", 1, 9, nil, 2, api.OK)
	checkTakeAll(t, "\x00more", 0, 9, nil, 1, api.OK)
	checkTakeAll(t, "\x02\x00\x01a", 0, 1, []string{"", "a"}, 4, api.OK)
	checkTakeAll(t, "\x02\x00\x01a\xff", 0, 1, []string{"", "a"}, 4, api.OK)
	checkTakeAll(t, "\xff\x02\x00\x01a", 1, 1, []string{"", "a"}, 5, api.OK)
	checkTakeAll(t, "\x02\x00\x00", 0, -1, []string{"", ""}, 3, api.OK)
	checkTakeAll(t, "\x02\x00\x01a", 0, 0, nil, 0, api.ErrLong)
	checkTakeAll(t, "\x02\x00\x01a", 0, -1, nil, 0, api.ErrLong)
	checkTakeAll(t, "\x02\x01a", 0, 9, nil, 0, api.ErrShort)
	checkTakeAll(t, "\x02\x01a\x02b", 0, 9, nil, 0, api.ErrShort)
	checkTakeAll(t, "\x02\x01a\x01\xff", 0, 9, nil, 0, api.ErrText)
	checkTakeAll(t, "\x02\x01a\x80\x00", 0, 9, nil, 0, api.ErrLong)
	checkTakeAll(t, "\x01\xff\xff\xff\xff\xff\xff\xff\xff\xff\x02", 0, 9, nil, 0, api.ErrOver)
}

func TestTakeAllHasTheFirstError(t *testing.T) {
	checkTakeAll(t, "\x03\x01a\x03abc\x01\xff", 0, 2, nil, 0, api.ErrLong)
	checkTakeAll(t, "\x03\x01a\x01\xff\x03abc", 0, 2, nil, 0, api.ErrText)
	checkTakeAll(t, "\x03\x01\xff\x80\x00", 0, 2, nil, 0, api.ErrText)
	checkTakeAll(t, "\x03\x00\x80\x00\x01\xff", 0, 2, nil, 0, api.ErrLong)
	checkTakeAll(t, "\x09\x01\xff", 0, 2, nil, 0, api.ErrText)
	checkTakeAll(t, "\x09\x01a\x05a", 0, 2, nil, 0, api.ErrLong)
}

func TestTakeAllOutsideTheString(t *testing.T) {
	for _, s := range []string{"", "\x00", "\x01\x00", "\x05", "\xff"} {
		for _, most := range mosts(2) {
			for _, at := range []int{-1, -2, math.MinInt, math.MinInt + 1, len(s) + 1, len(s) + 2, 1 << 32, math.MaxInt - 1, math.MaxInt} {
				checkTakeAll(t, s, at, most, nil, 0, api.ErrArg)
			}
			checkTakeAll(t, s, len(s), most, nil, 0, api.ErrShort)
		}
	}
}

func TestTakeAllHasTheErrorsOfTheNumberFirst(t *testing.T) {
	for s, e := range badNumbers() {
		for _, most := range mosts(2) {
			checkTakeAll(t, s, 0, most, nil, 0, e)
			checkTakeAll(t, "\x01a"+s, 2, most, nil, 0, e)
			if s != "" && s[len(s)-1] < 128 {
				checkTakeAll(t, s+"\x01\xff", 0, most, nil, 0, e)
			}
		}
	}
}

// TestTakeAllOfGreatNumbers has numbers of texts that no string holds: up to 2^62 they are looked for, in vain.
func TestTakeAllOfGreatNumbers(t *testing.T) {
	for _, n := range []uint64{1 << 20, 1 << 31, 1<<32 + 1, 1 << 40, 1 << 61, 1<<62 - 1, 1 << 62} {
		checkTakeAll(t, uvarint(n), 0, 9, nil, 0, api.ErrShort)
		checkTakeAll(t, uvarint(n)+strings.Repeat("\x00", 1000), 0, 9, nil, 0, api.ErrShort)
		checkTakeAll(t, uvarint(n)+"\x00\x01\xff", 0, 9, nil, 0, api.ErrText)
		checkTakeAll(t, uvarint(n)+"\x00\x05a", 0, 4, nil, 0, api.ErrLong)
		checkTakeAll(t, "ab"+uvarint(n), 2, math.MaxInt, nil, 0, api.ErrShort)
	}
	for _, n := range []uint64{1<<62 + 1, 1<<62 + 2, math.MaxInt64, math.MaxInt64 + 1, math.MaxUint64 - 1, math.MaxUint64} {
		for _, most := range mosts(2) {
			for _, tail := range []string{"", "\x00", "\x01\xff", "\x80\x00"} {
				checkTakeAll(t, uvarint(n)+tail, 0, most, nil, 0, api.ErrRange)
				checkTakeAll(t, "ab"+uvarint(n)+tail, 2, most, nil, 0, api.ErrRange)
			}
		}
	}
}

func TestTakeAllOfEachPrefix(t *testing.T) {
	whole, _ := encodedAll([]string{"", "ab", "\xc3\xa9", strings.Repeat("b", 200), ""}, 200)
	for end := range len(whole) {
		checkTakeAll(t, whole[:end], 0, 200, nil, 0, api.ErrShort)
	}
}

// TestTakeAllOfStrings holds TakeAll against the chapter's words for all strings of up to five bytes that matter.
func TestTakeAllOfStrings(t *testing.T) {
	pieces := []string{"", "\x00", "\x01", "\x02", "a", "\x80", "\xc3", "\xa9", "\xff"}
	for _, a := range pieces {
		for _, b := range pieces {
			for _, c := range pieces {
				for _, d := range pieces {
					for _, f := range pieces {
						s := a + b + c + d + f
						for _, most := range []int{-1, 0, 1, 200} {
							want, next, e := decodedAll(s, 0, most)
							checkTakeAll(t, s, 0, most, want, next, e)
						}
					}
				}
			}
		}
	}
}

// P8.5

func TestTakeUndoesPut(t *testing.T) {
	for _, s := range texts() {
		whole, e := Put(s, len(s))
		if e != api.OK {
			t.Errorf("Put(%.40q) is the error %d", s, e)
		}
		for _, front := range []string{"", "\x00", "\x80", "\xff\xff", "stoplog"} {
			for _, tail := range []string{"", "\x00", "a", "\xff"} {
				checkTake(t, front+whole+tail, len(front), len(s), s, len(front)+len(whole), api.OK)
			}
		}
	}
}

func TestTakeAllUndoesPutAll(t *testing.T) {
	lists := [][]string{nil, {""}, texts()}
	for _, count := range []int{127, 128, 300, 16384, 100000} {
		lists = append(lists, slices.Repeat([]string{""}, count), slices.Repeat([]string{"ab"}, count))
	}
	random := rand.New(rand.NewSource(2))
	for range 200 {
		list := make([]string, random.Intn(8))
		for i := range list {
			list[i] = texts()[random.Intn(20)]
		}
		lists = append(lists, list)
	}
	for _, list := range lists {
		whole, e := PutAll(list, 1<<17)
		if e != api.OK {
			t.Errorf("PutAll of %d texts is the error %d", len(list), e)
		}
		for _, front := range []string{"", "\x00", "\x80", "stoplog"} {
			for _, tail := range []string{"", "\x00", "\xff"} {
				checkTakeAll(t, front+whole+tail, len(front), 1<<17, list, len(front)+len(whole), api.OK)
			}
		}
	}
}

// TestWhatIsDecodedHasNoOtherEncoding takes bytes at random: those that are taken must be what Put writes.
func TestWhatIsDecodedHasNoOtherEncoding(t *testing.T) {
	random := rand.New(rand.NewSource(3))
	choice := []byte{0, 0, 1, 1, 2, 3, 'a', 'b', 0x80, 0x81, 0xc3, 0xa9, 0xff}
	taken, takenAll := 0, 0
	for range 200000 {
		list := make([]byte, random.Intn(9))
		for i := range list {
			list[i] = choice[random.Intn(len(choice))]
		}
		s, at := string(list), random.Intn(3)
		if piece, next, e := Take(s, at, 9); e == api.OK {
			taken++
			checkPut(t, piece, 9, s[at:next], api.OK)
		}
		if pieces, next, e := TakeAll(s, at, 9); e == api.OK {
			takenAll++
			checkPutAll(t, pieces, 9, s[at:next], api.OK)
		}
	}
	if taken < 1000 || takenAll < 1000 {
		t.Errorf("only %d texts and %d lists were taken", taken, takenAll)
	}
}

// R3

// shares tells whether part begins within the memory of whole.
func shares(part, whole string) bool {
	for i := range len(whole) {
		if unsafe.StringData(part) == unsafe.StringData(whole[i:]) {
			return true
		}
	}
	return false
}

func TestResultsShareNoMemoryWithArguments(t *testing.T) {
	s := strings.Repeat("stoplog", 10)
	one, _ := Put(s, 70)
	all, _ := PutAll([]string{s, s}, 70)
	if shares(one, s) || shares(s, one) || shares(all, s) || shares(s, all) {
		t.Error("what is encoded shares memory with the text")
	}
	back, _, _ := Take(one, 0, 70)
	if back != s || shares(back, one) {
		t.Error("Take shares memory with its argument")
	}
	pieces, _, _ := TakeAll(all, 0, 70)
	for _, piece := range pieces {
		if piece != s || shares(piece, all) {
			t.Error("TakeAll shares memory with its argument")
		}
	}
}

func TestPutAllLeavesItsArgument(t *testing.T) {
	whole := []string{"a", "\xc3\xa9", "\xff", "spare"}
	for size := range len(whole) + 1 {
		PutAll(whole[:size], 9)
		if !slices.Equal(whole, []string{"a", "\xc3\xa9", "\xff", "spare"}) {
			t.Fatalf("PutAll of %d texts changed its argument: %q", size, whole)
		}
	}
}
