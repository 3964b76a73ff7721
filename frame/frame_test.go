package frame

import (
	"encoding/binary"
	"hash/crc32"
	"math"
	"math/rand"
	"strings"
	"testing"
	"unsafe"

	"stoplog/api"
)

// frameOf is a frame by the chapter's own words, whatever its kind, and whatever it says the length of its body is.
func frameOf(kind byte, length uint32, body string) string {
	list := []byte{0xa7, kind}
	list = binary.BigEndian.AppendUint32(list, length)
	list = append(list, body...)
	return string(binary.LittleEndian.AppendUint32(list, crc32.ChecksumIEEE(list)))
}

// rightFrame is the frame of a body.
func rightFrame(kind byte, body string) string {
	return frameOf(kind, uint32(len(body)), body)
}

// decoded is what Get must answer, by the chapter's own words.
func decoded(s string) (int, string, api.Errno) {
	list := []byte(s)
	switch {
	case len(list) == 0:
		return 0, "", api.ErrShort
	case list[0] != 0xa7:
		return 0, "", api.ErrForm
	case len(list) < 6:
		return 0, "", api.ErrShort
	case list[1] == 0:
		return 0, "", api.ErrKind
	}
	length := int64(binary.BigEndian.Uint32(list[2:6]))
	switch {
	case length > 1048576:
		return 0, "", api.ErrLong
	case int64(len(list)) < length+10:
		return 0, "", api.ErrShort
	case int64(len(list)) > length+10:
		return 0, "", api.ErrMore
	case binary.LittleEndian.Uint32(list[6+length:]) != crc32.ChecksumIEEE(list[:6+length]):
		return 0, "", api.ErrSum
	}
	return int(list[1]), string(list[6 : 6+length]), api.OK
}

func randomString(random *rand.Rand, length int) string {
	list := make([]byte, length)
	random.Read(list)
	return string(list)
}

// bodies are of lengths at the edges of each byte of the length, and of bytes that could be taken for something else.
func bodies() []string {
	list := []string{"", "a", "\x00", "\xff", "\xa7", "stoplog", "\xa7\x01\x00\x00\x00\x00", rightFrame(1, ""), "\xc3\x28"}
	random := rand.New(rand.NewSource(1))
	for length := range 40 {
		list = append(list, randomString(random, length))
	}
	for _, length := range []int{255, 256, 257, 65535, 65536, 65537, 0x012345, api.MaxBody - 1, api.MaxBody} {
		list = append(list, randomString(random, length))
	}
	return list
}

func checkSize(t *testing.T, n, want int) {
	t.Helper()
	if got := Size(n); got != want {
		t.Errorf("Size(%d) is %d, want %d", n, got, want)
	}
}

func checkPut(t *testing.T, kind int, body, want string, wantE api.Errno) {
	t.Helper()
	if got, e := Put(kind, body); got != want || e != wantE {
		t.Errorf("Put(%d, %.40q) of %d bytes is %.60q of %d bytes, %d, want %.60q of %d bytes, %d", kind, body, len(body), got, len(got), e, want, len(want), wantE)
	}
}

func checkGet(t *testing.T, s string, wantKind int, want string, wantE api.Errno) {
	t.Helper()
	if kind, body, e := Get(s); kind != wantKind || body != want || e != wantE {
		t.Errorf("Get(%.60q) of %d bytes is %d, %.40q of %d bytes, %d, want %d, %.40q of %d bytes, %d", s, len(s), kind, body, len(body), e, wantKind, want, len(want), wantE)
	}
}

func checkWrong(t *testing.T, s string, want api.Errno) {
	t.Helper()
	checkGet(t, s, 0, "", want)
}

// P7.1

func TestSizeExamples(t *testing.T) {
	checkSize(t, 0, 10)
	checkSize(t, 1, 11)
	checkSize(t, 255, 265)
	checkSize(t, 256, 266)
	checkSize(t, 65536, 65546)
	checkSize(t, api.MaxBody-1, 1048585)
	checkSize(t, api.MaxBody, 1048586)
	checkSize(t, api.MaxBody+1, 0)
	checkSize(t, api.MaxBody+10, 0)
	checkSize(t, -1, 0)
	checkSize(t, -10, 0)
	checkSize(t, -11, 0)
	checkSize(t, 1<<32, 0)
	checkSize(t, 1<<32+5, 0)
	checkSize(t, math.MaxInt-9, 0)
	checkSize(t, math.MaxInt, 0)
	checkSize(t, math.MinInt, 0)
}

func TestSizeOfEachNumber(t *testing.T) {
	for n := -1000; n <= api.MaxBody+1000; n++ {
		want := n + 10
		if n < 0 || n > api.MaxBody {
			want = 0
		}
		checkSize(t, n, want)
	}
}

func TestSizeIsTheSizeOfAFrame(t *testing.T) {
	for _, body := range bodies() {
		s, e := Put(1, body)
		if e != api.OK {
			t.Errorf("Put of %d bytes is the error %d", len(body), e)
		}
		checkSize(t, len(body), len(s))
	}
}

// P7.2

func TestPutExamples(t *testing.T) {
	checkPut(t, 1, "", "\xa7\x01\x00\x00\x00\x00\x45\xa9\xbb\x88", api.OK)
	checkPut(t, 255, "", "\xa7\xff\x00\x00\x00\x00\x79\x47\xbf\x7f", api.OK)
	checkPut(t, 2, "abc", "\xa7\x02\x00\x00\x00\x03abc\xc8\xcb\x39\xfc", api.OK)
	checkPut(t, 256, "", "", api.ErrKind)
	checkPut(t, 0, "", "", api.ErrKind)
	checkPut(t, 0, "abc", "", api.ErrKind)
	checkPut(t, -1, "", "", api.ErrKind)
}

func TestPutStartsWithTheLengthOfTheBody(t *testing.T) {
	for length, want := range map[int]string{
		1:           "\xa7\x07\x00\x00\x00\x01",
		255:         "\xa7\x07\x00\x00\x00\xff",
		256:         "\xa7\x07\x00\x00\x01\x00",
		0x1234:      "\xa7\x07\x00\x00\x12\x34",
		0x012345:    "\xa7\x07\x00\x01\x23\x45",
		api.MaxBody: "\xa7\x07\x00\x10\x00\x00",
	} {
		s, e := Put(7, strings.Repeat("b", length))
		if e != api.OK || !strings.HasPrefix(s, want+"b") {
			t.Errorf("Put of %d bytes is %.10q, %d, want %q", length, s, e, want)
		}
	}
}

func TestPutOfEachKind(t *testing.T) {
	kinds := []int{math.MinInt, math.MinInt + 1, -1<<32 + 1, 1<<32 + 1, 1<<62 + 1, math.MaxInt}
	for kind := -600; kind <= 1200; kind++ {
		kinds = append(kinds, kind)
	}
	for _, kind := range kinds {
		for _, body := range []string{"", "a", "stoplog"} {
			if 1 <= kind && kind <= 255 {
				checkPut(t, kind, body, rightFrame(byte(kind), body), api.OK)
			} else {
				checkPut(t, kind, body, "", api.ErrKind)
			}
		}
	}
}

func TestPutOfBodies(t *testing.T) {
	for _, body := range bodies() {
		for _, kind := range []int{1, 2, 127, 128, 167, 255} {
			checkPut(t, kind, body, rightFrame(byte(kind), body), api.OK)
		}
	}
}

func TestPutOfALongBody(t *testing.T) {
	for _, length := range []int{api.MaxBody + 1, api.MaxBody + 2, 2 * api.MaxBody, 1 << 24} {
		body := strings.Repeat("\x00", length)
		checkPut(t, 1, body, "", api.ErrLong)
		checkPut(t, 255, body, "", api.ErrLong)
		checkPut(t, 0, body, "", api.ErrKind)
		checkPut(t, 256, body, "", api.ErrKind)
		checkPut(t, -1, body, "", api.ErrKind)
	}
}

// P7.3

func TestGetExamples(t *testing.T) {
	checkGet(t, "\xa7\x01\x00\x00\x00\x00\x45\xa9\xbb\x88", 1, "", api.OK)
	checkGet(t, "\xa7\xff\x00\x00\x00\x00\x79\x47\xbf\x7f", 255, "", api.OK)
	checkGet(t, "\xa7\x02\x00\x00\x00\x03abc\xc8\xcb\x39\xfc", 2, "abc", api.OK)
	checkWrong(t, "", api.ErrShort)
	checkWrong(t, "a", api.ErrForm)
	checkWrong(t, "\xa7", api.ErrShort)
	checkWrong(t, "\xa7\x01\x00\x10\x00\x01", api.ErrLong)
	checkWrong(t, "\xa7\x01\x00\x10\x00\x00", api.ErrShort)
	checkWrong(t, "\xa7\x00\x00\x00\x00\x00", api.ErrKind)
	checkWrong(t, "\xa7\x01\x00\x00\x00\x00\x45\xa9\xbb", api.ErrShort)
	checkWrong(t, "\xa7\x01\x00\x00\x00\x00\x45\xa9\xbb\x88\x00", api.ErrMore)
	checkWrong(t, "\xa7\x01\x00\x00\x00\x00\x45\xa9\xbb\x89", api.ErrSum)
	checkWrong(t, "\xa7\x01\x00\x00\x00\x00\x88\xbb\xa9\x45", api.ErrSum) // the most significant byte first
}

// TestGetOfSeveralFaults has bytes with all faults from some one on: the first one counts.
func TestGetOfSeveralFaults(t *testing.T) {
	checkWrong(t, "\xa6", api.ErrForm)
	checkWrong(t, "\xa6\x00\xff\xff\xff\xff", api.ErrForm)
	checkWrong(t, "\xa7\x00", api.ErrShort)
	checkWrong(t, "\xa7\x00\xff\xff\xff", api.ErrShort)
	checkWrong(t, "\xa7\x01\xff\xff\xff", api.ErrShort)
	checkWrong(t, "\xa7\x00\xff\xff\xff\xff", api.ErrKind)
	checkWrong(t, "\xa7\x00\x00\x00\x00\x09", api.ErrKind)
	checkWrong(t, frameOf(0, 0, ""), api.ErrKind)
	checkWrong(t, frameOf(0, 0, "")+"more", api.ErrKind)
	checkWrong(t, "\xa7\x01\xff\xff\xff\xff", api.ErrLong)
	checkWrong(t, frameOf(1, api.MaxBody+1, strings.Repeat("b", api.MaxBody+1)), api.ErrLong)
	checkWrong(t, frameOf(1, api.MaxBody+1, strings.Repeat("b", api.MaxBody+1))+"more", api.ErrLong)
	checkWrong(t, frameOf(1, 0xffffffff, "b"), api.ErrLong)
	checkWrong(t, frameOf(1, 2, "b"), api.ErrShort)
	checkWrong(t, frameOf(1, api.MaxBody, strings.Repeat("b", api.MaxBody-1)), api.ErrShort)
	checkWrong(t, frameOf(1, 0, "b"), api.ErrMore)
	checkWrong(t, "\xa7\x01\x00\x00\x00\x00\x45\xa9\xbb\x89\x00", api.ErrMore)
	checkWrong(t, rightFrame(1, "b")+rightFrame(1, "b"), api.ErrMore)
}

func TestGetOfEachLength(t *testing.T) {
	lengths := []uint32{0x0fffff, 0x100000, 0x100001, 0x100100, 0x110000, 0x200000, 0x01000000, 0x10000000, 0x7fffffff, 0x80000000, 0xfffffff6, 0xffffffff}
	for shift := range 32 {
		lengths = append(lengths, 1<<shift, 1<<shift-1, 1<<shift+1)
	}
	for _, length := range lengths {
		want := api.ErrShort
		if length > api.MaxBody {
			want = api.ErrLong
		}
		checkWrong(t, string(binary.BigEndian.AppendUint32([]byte("\xa7\x01"), length)), want)
	}
}

func TestGetOfEachKind(t *testing.T) {
	for kind := range 256 {
		for _, body := range []string{"", "a", "stoplog"} {
			if kind == 0 {
				checkWrong(t, rightFrame(0, body), api.ErrKind)
			} else {
				checkGet(t, rightFrame(byte(kind), body), kind, body, api.OK)
			}
		}
	}
}

func TestGetOfEachFirstByte(t *testing.T) {
	for b := range 256 {
		if b == 0xa7 {
			continue
		}
		first := string([]byte{byte(b)})
		checkWrong(t, first, api.ErrForm)
		checkWrong(t, first+"\x01\x00\x00\x00\x00", api.ErrForm)
		list := binary.LittleEndian.AppendUint32([]byte(first+"\x01\x00\x00\x00\x00"), crc32.ChecksumIEEE([]byte(first+"\x01\x00\x00\x00\x00")))
		checkWrong(t, string(list), api.ErrForm)
	}
}

func TestGetOfEachPrefix(t *testing.T) {
	for _, body := range []string{"", "a", "stoplog", rightFrame(1, "a"), strings.Repeat("\x00", 300)} {
		s := rightFrame(9, body)
		for end := range len(s) {
			checkWrong(t, s[:end], api.ErrShort)
		}
		for length := 1; length < 20; length++ {
			checkWrong(t, s+strings.Repeat("\x00", length), api.ErrMore)
			checkWrong(t, s+strings.Repeat("\xa7", length), api.ErrMore)
		}
	}
	s := rightFrame(9, strings.Repeat("b", api.MaxBody))
	for _, end := range []int{6, 10, 1000, api.MaxBody, api.MaxBody + 6, api.MaxBody + 9} {
		checkWrong(t, s[:end], api.ErrShort)
	}
	checkWrong(t, s+"b", api.ErrMore)
}

// TestGetOfChangedBytes holds Get against the chapter's words for frames with some bytes changed, gone or added.
func TestGetOfChangedBytes(t *testing.T) {
	random := rand.New(rand.NewSource(2))
	seen := map[api.Errno]int{}
	for range 200000 {
		list := []byte(rightFrame(byte(random.Intn(4)), randomString(random, random.Intn(8))))
		for range random.Intn(3) {
			list[random.Intn(len(list))] = [...]byte{0, 1, 2, 0x10, 0xa7, 0xff}[random.Intn(6)]
		}
		switch random.Intn(4) {
		case 0:
			list = list[:random.Intn(len(list)+1)]
		case 1:
			list = append(list, randomString(random, random.Intn(4))...)
		}
		kind, body, e := decoded(string(list))
		checkGet(t, string(list), kind, body, e)
		seen[e]++
	}
	for _, e := range []api.Errno{api.OK, api.ErrShort, api.ErrForm, api.ErrKind, api.ErrLong, api.ErrMore, api.ErrSum} {
		if seen[e] < 100 {
			t.Errorf("the error %d was there only %d times", e, seen[e])
		}
	}
}

func TestGetOfRandomBytes(t *testing.T) {
	random := rand.New(rand.NewSource(3))
	for range 100000 {
		s := randomString(random, random.Intn(20))
		if random.Intn(4) > 0 {
			s = "\xa7" + s
		}
		kind, body, e := decoded(s)
		checkGet(t, s, kind, body, e)
	}
}

// P7.4

func TestGetUndoesPut(t *testing.T) {
	for _, body := range bodies() {
		for _, kind := range []int{1, 2, 127, 128, 167, 255} {
			s, e := Put(kind, body)
			if e != api.OK {
				t.Errorf("Put(%d) of %d bytes is the error %d", kind, len(body), e)
			}
			checkGet(t, s, kind, body, api.OK)
		}
	}
}

func TestPutUndoesGet(t *testing.T) {
	random := rand.New(rand.NewSource(4))
	for range 2000 {
		s := rightFrame(byte(1+random.Intn(255)), randomString(random, random.Intn(50)))
		kind, body, e := Get(s)
		if e != api.OK {
			t.Errorf("Get(%q) is the error %d", s, e)
		}
		checkPut(t, kind, body, s, api.OK)
	}
}

// changed is s with other bytes from at on: those of change combined by exclusive or.
func changed(s string, at int, change string) string {
	list := []byte(s)
	for i := range len(change) {
		list[at+i] ^= change[i]
	}
	return string(list)
}

func TestGetSeesAllChangesOfTwoBytes(t *testing.T) {
	for _, body := range []string{"", "abc"} {
		s, _ := Put(1, body)
		for at := 6; at < len(s)-1; at++ {
			for n := 1; n < 1<<16; n++ {
				checkWrong(t, changed(s, at, string([]byte{byte(n >> 8), byte(n)})), api.ErrSum)
			}
		}
	}
}

func TestGetSeesChangesOfFourBytes(t *testing.T) {
	random := rand.New(rand.NewSource(5))
	for _, body := range []string{"", "a", "abc", "stoplog", randomString(random, 30)} {
		s, _ := Put(255, body)
		for at := 6; at < len(s); at++ {
			for range 3000 {
				change := randomString(random, min(1+random.Intn(4), len(s)-at))
				if strings.Trim(change, "\x00") == "" {
					continue // nothing is changed
				}
				checkWrong(t, changed(s, at, change), api.ErrSum)
			}
		}
	}
}

// TestGetSeesChangesAcrossTheSum changes the last bytes of a body together with the first ones of its sum, as if these were right for it.
func TestGetSeesChangesAcrossTheSum(t *testing.T) {
	random := rand.New(rand.NewSource(6))
	s, _ := Put(1, "stoplog")
	for range 100000 {
		width := 1 + random.Intn(3)
		change := randomString(random, width)
		if change[0] == 0 {
			continue // not of that width, and perhaps no change
		}
		other, _ := Put(1, changed("stoplog", 7-width, change))
		checkWrong(t, other[:len(other)-width]+s[len(s)-width:], api.ErrSum)
	}
}

func TestGetSeesChangesOfALongBody(t *testing.T) {
	s, _ := Put(1, strings.Repeat("stoplog\n", api.MaxBody/8))
	for _, at := range []int{6, 7, 4096, api.MaxBody, api.MaxBody + 2, api.MaxBody + 4, api.MaxBody + 5, api.MaxBody + 6} {
		for _, change := range []string{"\x01", "\x00\x80", "\xff\xff\xff\xff", "\x01\x00\x00\x01"} {
			checkWrong(t, changed(s, at, change), api.ErrSum)
		}
	}
}

// R3

// shares tells whether part begins within the memory of whole.
func shares(part, whole string) bool {
	for i := range len(whole) {
		if unsafe.StringData(part) == unsafe.StringData(whole[i:]) {
			return true
		}
	}
	return false
}

func TestResultsShareNoMemoryWithArguments(t *testing.T) {
	body := strings.Repeat("stoplog", 10)
	s, _ := Put(1, body)
	if shares(s, body) || shares(body, s) {
		t.Error("Put shares memory with its argument")
	}
	_, back, _ := Get(s)
	if back != body || shares(back, s) {
		t.Error("Get shares memory with its argument")
	}
}
