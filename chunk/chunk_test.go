package chunk

import (
	"encoding/binary"
	"fmt"
	"hash/crc32"
	"math"
	"math/big"
	"slices"
	"strings"
	"testing"
	"unsafe"

	"chronicle/api"
)

const longest = 3999 // bytes of a body

func equal[T comparable](t *testing.T, what string, got, want T) {
	t.Helper()
	if got != want {
		t.Errorf("%s: %.300s, not %.300s", what, fmt.Sprintf("%#v", got), fmt.Sprintf("%#v", want))
	}
}

// reads holds what Read must tell of b.
func reads(t *testing.T, what, b string, want Scan) {
	t.Helper()
	s, e := Read(b)
	equal(t, what+": error", e, api.OK)
	equal(t, what+": Number", s.Number, want.Number)
	equal(t, what+": Size", s.Size, want.Size)
	equal(t, what+": Good", s.Good, want.Good)
	equal(t, what+": Done", s.Done, want.Done)
	if !slices.Equal(s.Bodies, want.Bodies) {
		t.Errorf("%s: %d bodies %.200q, not %d %.200q", what, len(s.Bodies), s.Bodies, len(want.Bodies), want.Bodies)
	}
}

// refuses holds that Read tells ErrForm of b, and nothing beside it.
func refuses(t *testing.T, what, b string) {
	t.Helper()
	s, e := Read(b)
	equal(t, what+": error", e, api.ErrForm)
	if s.Number != 0 || s.Size != 0 || s.Bodies != nil || s.Good != 0 || s.Done {
		t.Errorf("%s: %.200v beside the error", what, s)
	}
}

// long is a text of so many bytes, none of them like the next one.
func long(bytes int) string {
	b := make([]byte, bytes)
	for k := range b {
		b[k] = byte(k*k*31 + k + bytes*73)
	}
	return string(b)
}

// framed is the frame of any body, reckoned without the project's packages.
func framed(body string) string {
	length := string(binary.BigEndian.AppendUint32(nil, uint32(len(body))))
	sum := binary.BigEndian.AppendUint32(nil, crc32.ChecksumIEEE([]byte(length+body)))
	return length + string(sum) + body + length
}

// numbers lays ints in eight bytes each.
func numbers(l ...int) string {
	var b []byte
	for _, v := range l {
		b = binary.BigEndian.AppendUint64(b, uint64(v))
	}
	return string(b)
}

// start, record and finish lay what may be, and what may not be, too.
func start(number, size int) string   { return framed("\x00CHNK" + numbers(number, size)) }
func record(body string) string       { return framed("\x01" + body) }
func finish(number, count int) string { return framed("\x02DONE" + numbers(number, count)) }

func recordsOf(l []string) string {
	b := ""
	for _, body := range l {
		b += record(body)
	}
	return b
}

// bodies may be recorded; some hold what looks like frames of a chunk.
func bodies() []string {
	l := []string{"", "\x00", "\x01", "\x02", "a", "ab", "\xff\xff\xff\xff", "\u00e9\u4e16\n", "CHNK", "\x02DONE" + numbers(3, 9), start(3, 500), record("a"), record("a")[:9], finish(3, 12), finish(3, 13), strings.Repeat("\x00", 40)}
	for _, n := range []int{3, 11, 12, 13, 99, 100, 500, 1000, longest - 1, longest} {
		l = append(l, long(n))
	}
	return l
}

func goodNumbers() []int {
	return []int{0, 1, 3, 255, 256, 65535, 65536, 999_998, 999_999}
}

func wrongNumbers() []int {
	return []int{-1, -2, -999_999, 1_000_000, 1_000_001, 1 << 32, 1<<32 + 3, math.MinInt32, math.MaxInt, math.MinInt, math.MinInt + 3}
}

func goodSizes() []int {
	return []int{100, 101, 500, 65535, 65536, 999_999, 1_000_000}
}

func wrongSizes() []int {
	return []int{99, 98, 1, 0, -1, -100, -500, 1_000_001, 1_000_002, 1 << 32, 1<<32 + 500, math.MaxInt, math.MinInt, math.MinInt + 500}
}

// lies says whether a text's bytes are some of another one's.
func lies(s, in string) bool {
	at, from := uintptr(unsafe.Pointer(unsafe.StringData(s))), uintptr(unsafe.Pointer(unsafe.StringData(in)))
	return from <= at && at < from+uintptr(len(in))
}

// P1001

func TestKnownBytes(t *testing.T) {
	b, _ := Start(3, 500)
	equal(t, "Start", b[:4]+b[8:], "\x00\x00\x00\x15"+"\x00CHNK"+"\x00\x00\x00\x00\x00\x00\x00\x03"+"\x00\x00\x00\x00\x00\x00\x01\xf4"+"\x00\x00\x00\x15")
	b, _ = Record("ab")
	equal(t, "Record", b[:4]+b[8:], "\x00\x00\x00\x03"+"\x01ab"+"\x00\x00\x00\x03")
	b, _ = Finish(258, 7)
	equal(t, "Finish", b[:4]+b[8:], "\x00\x00\x00\x15"+"\x02DONE"+"\x00\x00\x00\x00\x00\x00\x01\x02"+"\x00\x00\x00\x00\x00\x00\x00\x07"+"\x00\x00\x00\x15")
}

// lays holds what Start, Record or Finish must answer.
func lays(t *testing.T, what, got string, e api.Errno, want string, wanted api.Errno) {
	t.Helper()
	equal(t, what, got, want)
	equal(t, what+": error", e, wanted)
}

func TestStart(t *testing.T) {
	for _, number := range goodNumbers() {
		for _, size := range goodSizes() {
			b, e := Start(number, size)
			lays(t, fmt.Sprint("Start ", number, size), b, e, start(number, size), api.OK)
		}
	}
}

func TestStartOfWhatCantBe(t *testing.T) {
	refused := func(number, size int) {
		b, e := Start(number, size)
		lays(t, fmt.Sprint("Start ", number, size), b, e, "", api.ErrArg)
	}
	for _, number := range wrongNumbers() {
		for _, size := range slices.Concat(goodSizes(), wrongSizes()) {
			refused(number, size)
		}
	}
	for _, number := range goodNumbers() {
		for _, size := range wrongSizes() {
			refused(number, size)
		}
	}
}

func TestRecord(t *testing.T) {
	for _, body := range bodies() {
		b, e := Record(body)
		lays(t, fmt.Sprintf("Record of %d bytes %.20q", len(body), body), b, e, record(body), api.OK)
	}
}

func TestRecordOfTooLong(t *testing.T) {
	for _, n := range []int{longest + 1, longest + 2, longest + 3, 2 * longest, 65536, 100_000} {
		b, e := Record(long(n))
		lays(t, fmt.Sprint("Record of bytes ", n), b, e, "", api.ErrLong)
	}
}

func TestFinish(t *testing.T) {
	for _, number := range goodNumbers() {
		for _, count := range []int{0, 1, 2, 255, 256, 1 << 20, math.MaxInt32, 1 << 32, math.MaxInt} {
			b, e := Finish(number, count)
			lays(t, fmt.Sprint("Finish ", number, count), b, e, finish(number, count), api.OK)
		}
	}
}

func TestFinishOfWhatCantBe(t *testing.T) {
	for _, number := range slices.Concat(goodNumbers(), wrongNumbers()) {
		for _, count := range []int{-1, -2, -1 << 32, math.MinInt32, math.MinInt} {
			b, e := Finish(number, count)
			lays(t, fmt.Sprint("Finish ", number, count), b, e, "", api.ErrArg)
		}
	}
	for _, number := range wrongNumbers() {
		for _, count := range []int{0, 1, math.MaxInt} {
			b, e := Finish(number, count)
			lays(t, fmt.Sprint("Finish ", number, count), b, e, "", api.ErrArg)
		}
	}
}

func TestRecordIsNewMemory(t *testing.T) {
	body := long(100)
	b, _ := Record(body)
	equal(t, "Record shares with the body", lies(body, b), false)
}

// P1002

func TestReadOfTheExample(t *testing.T) {
	b, _ := Start(3, 500)
	a, _ := Record("a")
	reads(t, "the example", b+a, Scan{Number: 3, Size: 500, Bodies: []string{"a"}, Good: 47})
}

func TestReadOfAStartAlone(t *testing.T) {
	for _, number := range goodNumbers() {
		for _, size := range goodSizes() {
			reads(t, fmt.Sprint("Start ", number, size), start(number, size), Scan{Number: number, Size: size, Good: 33})
		}
	}
}

func TestReadOfRecords(t *testing.T) {
	b := start(7, 1000)
	for k, body := range bodies() {
		reads(t, fmt.Sprint("first bodies ", k), b, Scan{Number: 7, Size: 1000, Bodies: bodies()[:k], Good: len(b)})
		reads(t, fmt.Sprint("first bodies and the end ", k), b+finish(7, k), Scan{Number: 7, Size: 1000, Bodies: bodies()[:k], Good: len(b) + 33, Done: true})
		b += record(body)
	}
	many := strings.Repeat(record(""), 20_000)
	reads(t, "many of no bytes", start(0, 100)+many+finish(0, 20_000), Scan{Size: 100, Bodies: make([]string, 20_000), Good: 66 + len(many), Done: true})
}

// TestReadOfMoreThanTheSize: how many bytes the records have is held against nothing.
func TestReadOfMoreThanTheSize(t *testing.T) {
	l := []string{long(longest), long(200), long(88)}
	b := start(3, 100) + recordsOf(l)
	reads(t, "not done", b, Scan{Number: 3, Size: 100, Bodies: l, Good: len(b)})
	reads(t, "done", b+finish(3, 3), Scan{Number: 3, Size: 100, Bodies: l, Good: len(b) + 33, Done: true})
}

// notStarts are bytes whose front is nothing that Start lays.
func notStarts() map[string]string {
	b := start(3, 500)
	m := map[string]string{
		"nothing":                "",
		"a byte":                 "x",
		"a text":                 "CHNK",
		"many bytes":             long(5000),
		"noughts":                strings.Repeat("\x00", 100),
		"a frame of nothing":     framed(""),
		"a record":               record("a"),
		"an end":                 finish(3, 500),
		"a start as a record":    record("\x00CHNK" + numbers(3, 500)),
		"a start unframed":       "\x00CHNK" + numbers(3, 500),
		"a byte ahead":           "\x00" + b,
		"a record ahead":         record("a") + b,
		"the mark alone":         framed("\x00CHNK"),
		"a number alone":         framed("\x00CHNK" + numbers(3)),
		"a number too many":      framed("\x00CHNK" + numbers(3, 500, 0)),
		"a byte too few":         framed(("\x00CHNK" + numbers(3, 500))[:20]),
		"a byte too many":        framed("\x00CHNK" + numbers(3, 500) + "\x00"),
		"another first byte":     framed("\x01CHNK" + numbers(3, 500)),
		"the end's first byte":   framed("\x02CHNK" + numbers(3, 500)),
		"no first byte":          framed("CHNK" + numbers(3, 500)),
		"the end's letters":      framed("\x00DONE" + numbers(3, 500)),
		"small letters":          framed("\x00chnk" + numbers(3, 500)),
		"numbers in four bytes":  framed("\x00CHNK\x00\x00\x00\x03\x00\x00\x01\xf4"),
		"lowest bytes first":     framed("\x00CHNK\x03\x00\x00\x00\x00\x00\x00\x00\xf4\x01\x00\x00\x00\x00\x00\x00"),
		"numbers the other way":  framed("\x00CHNK" + numbers(500, 3)),
		"another length at last": b[:32] + "\x16",
		"another sum":            b[:4] + "x" + b[5:],
		"too long a frame":       framed("\x00CHNK" + numbers(3, 500) + long(4000)),
	}
	for k := range b {
		m[fmt.Sprint("first bytes of a start ", k)] = b[:k]
	}
	for _, number := range wrongNumbers() {
		m[fmt.Sprint("number ", number)] = start(number, 500)
	}
	for _, size := range wrongSizes() {
		m[fmt.Sprint("size ", size)] = start(3, size)
	}
	return m
}

func TestReadOfNoStart(t *testing.T) {
	for what, none := range notStarts() {
		refuses(t, what, none)
		refuses(t, what+", records behind", none+record("a")+record("b")+finish(3, 2))
	}
}

// others are bytes whose front is neither a record nor the end of the chunk 3 with two records.
func others() map[string]string {
	b := record("ab")
	return map[string]string{
		"a byte":                "x",
		"many bytes":            long(5000),
		"noughts":               strings.Repeat("\x00", 100),
		"greatest bytes":        strings.Repeat("\xff", 100),
		"a frame of nothing":    framed(""),
		"a first byte 0":        framed("\x00a"),
		"a first byte 2":        framed("\x02a"),
		"a first byte 3":        framed("\x03a"),
		"a first byte 255":      framed("\xffa"),
		"no first byte":         framed("a"),
		"a start again":         start(3, 500),
		"the next start":        start(4, 500),
		"a record cut off":      b[:len(b)-1] + "\xff",
		"a record begun late":   b[1:],
		"another sum":           b[:4] + "x" + b[5:],
		"another body":          b[:9] + "x" + b[10:],
		"another last byte":     b[:len(b)-1] + "\x04",
		"a body too long":       record(long(longest + 1)),
		"an end of too many":    finish(3, 3),
		"an end of too few":     finish(3, 1),
		"an end of none":        finish(3, 0),
		"an end below none":     finish(3, -1),
		"another number's end":  finish(4, 2),
		"number 0's end":        finish(0, 2),
		"an end turned round":   finish(2, 3),
		"an end as a start":     framed("\x00DONE" + numbers(3, 2)),
		"an end of no letters":  framed("\x02" + numbers(3, 2)),
		"an end of others":      framed("\x02CHNK" + numbers(3, 2)),
		"an end of small ones":  framed("\x02done" + numbers(3, 2)),
		"an end without both":   framed("\x02DONE"),
		"an end without count":  framed("\x02DONE" + numbers(3)),
		"an end with more":      framed("\x02DONE" + numbers(3, 2, 0)),
		"an end a byte shorter": framed(("\x02DONE" + numbers(3, 2))[:20]),
		"an end a byte longer":  framed("\x02DONE" + numbers(3, 2) + "\x00"),
		"an end unframed":       "\x02DONE" + numbers(3, 2),
		"an end of another sum": finish(3, 2)[:4] + "x" + finish(3, 2)[5:],
		"an end cut off":        finish(3, 2)[:32] + "\xff",
	}
}

func TestReadUpToTheFirstThatIsSomethingElse(t *testing.T) {
	two := start(3, 500) + record("a") + record("")
	want := Scan{Number: 3, Size: 500, Bodies: []string{"a", ""}, Good: len(two)}
	for what, other := range others() {
		reads(t, what, two+other, want)
		reads(t, what+", a record behind", two+other+record("c"), want)
		reads(t, what+", the end behind", two+other+finish(3, 2), want)
		reads(t, what+", a record and the end behind", two+other+record("c")+finish(3, 3), want)
	}
}

// TestAnEndAsARecord: what is recorded ends no chunk, whatever it says.
func TestAnEndAsARecord(t *testing.T) {
	l := []string{"\x02DONE" + numbers(3, 0), finish(3, 1), "DONE" + numbers(3, 2), "c"}
	b := start(3, 500) + recordsOf(l)
	reads(t, "ends in records", b, Scan{Number: 3, Size: 500, Bodies: l, Good: len(b)})
}

func TestDone(t *testing.T) {
	for _, number := range goodNumbers() {
		for _, l := range [][]string{nil, {""}, {"a", "a"}, {"a", "", "b"}, {long(longest)}} {
			b := start(number, 1_000_000) + recordsOf(l) + finish(number, len(l))
			want := Scan{Number: number, Size: 1_000_000, Bodies: l, Good: len(b), Done: true}
			reads(t, fmt.Sprint("done ", number), b, want)
			for what, other := range others() {
				reads(t, "done, behind it "+what, b+other, want)
			}
			for _, more := range []string{record("c"), record("c") + finish(number, len(l)+1), finish(number, len(l)), b} {
				reads(t, fmt.Sprintf("done, behind it %.30q", more), b+more, want)
			}
		}
	}
}

// TestEachByteTurned: what stands ahead of a spoilt frame is told, and nothing from it on.
func TestEachByteTurned(t *testing.T) {
	l := []string{"a", "", "bcd", finish(3, 1)}
	b := start(3, 500) + recordsOf(l) + finish(3, len(l))
	whole, good := 0, 33 // of the records, those ahead of the byte that is turned, and where they end
	for k := range len(b) {
		if whole < len(l) && k == good+len(record(l[whole])) {
			good, whole = k, whole+1
		}
		for x := 1; x < 256; x++ {
			turned := b[:k] + string([]byte{b[k] ^ byte(x)}) + b[k+1:]
			what := fmt.Sprintf("byte %d turned by %d", k, x)
			if k < 33 {
				refuses(t, what, turned)
				continue
			}
			reads(t, what, turned, Scan{Number: 3, Size: 500, Bodies: l[:whole], Good: good})
		}
	}
	equal(t, "records ahead of the last byte", whole, len(l))
}

func TestReadIsNewMemory(t *testing.T) {
	b := start(3, 500) + record(long(50)) + record(long(50)) + finish(3, 2)
	one, _ := Read(b)
	two, _ := Read(b)
	equal(t, "how many", len(one.Bodies)+len(two.Bodies), 4)
	for _, s := range one.Bodies {
		equal(t, "shares with the bytes", lies(s, b), false)
	}
	equal(t, "share with each other", lies(one.Bodies[0], one.Bodies[1]) || lies(one.Bodies[0], two.Bodies[0]), false)
	one.Bodies[0] = "turned"
	equal(t, "another answer", two.Bodies[0], long(50))
	reads(t, "a third one", b, Scan{Number: 3, Size: 500, Bodies: []string{long(50), long(50)}, Good: len(b), Done: true})
}

// P1003

func TestRoom(t *testing.T) {
	for _, c := range [][3]int{
		{100, 0, 87}, {100, 1, 86}, {100, 86, 1}, {100, 87, 0}, {100, 88, 0}, {100, 99, 0}, {100, 100, 0}, {100, 101, 0}, {100, 500, 0},
		{500, 0, 487}, {500, 14, 473}, {1_000_000, 0, 3999}, {1_000_000, 1_000_000 - 4012, 3999}, {1_000_000, 1_000_000 - 4011, 3998}, {1_000_000, 1_000_000 - 4013, 3999},
		{4011, 0, 3998}, {4012, 0, 3999}, {4013, 0, 3999}, {4000, 0, 3987},
		{0, 0, 0}, {12, 0, 0}, {13, 0, 0}, {14, 0, 1}, {99, 0, 86}, {2_000_000, 0, 3999}, {2_000_000, 1_999_000, 987},
		{math.MaxInt, 0, 3999}, {math.MaxInt, math.MaxInt, 0}, {math.MaxInt, math.MaxInt - 13, 0}, {math.MaxInt, math.MaxInt - 14, 1},
	} {
		equal(t, fmt.Sprint("Room ", c[0], c[1]), Room(c[0], c[1]), c[2])
	}
}

func TestRoomBelowNought(t *testing.T) {
	for _, low := range []int{-1, -2, -13, -14, -5000, math.MinInt + 1, math.MinInt} {
		for _, v := range []int{0, 1, 100, 1_000_000, math.MaxInt, -1, math.MinInt} {
			equal(t, fmt.Sprint("Room ", low, v), Room(low, v), 0)
			equal(t, fmt.Sprint("Room ", v, low), Room(v, low), 0)
		}
	}
}

// roomOf is reckoned with numbers that have no end.
func roomOf(size, used int) int {
	if size < 0 || used < 0 {
		return 0
	}
	left := new(big.Int).Sub(big.NewInt(int64(size)), big.NewInt(int64(used)))
	left.Sub(left, big.NewInt(13))
	switch {
	case left.Sign() < 0:
		return 0
	case left.Cmp(big.NewInt(longest)) > 0:
		return longest
	}
	return int(left.Int64())
}

func TestRoomAtTheEndsOfInts(t *testing.T) {
	var l []int
	for _, v := range []int{0, 13, 100, 4012, 1_000_000, math.MaxInt32, 1 << 32, math.MaxInt - 4012, math.MaxInt - 13, math.MaxInt, math.MinInt} {
		for d := -15; d <= 15; d++ {
			l = append(l, v+d)
		}
	}
	for _, size := range l {
		for _, used := range l {
			equal(t, fmt.Sprint("Room ", size, " ", used), Room(size, used), roomOf(size, used))
		}
	}
}

// TestRoomIsWhatFits: a record as long as there is room goes in, and one a byte longer does not.
func TestRoomIsWhatFits(t *testing.T) {
	for size := 100; size < 9000; size += 61 {
		used := 0
		for k := 0; ; k++ {
			n := Room(size, used)
			if n == 0 {
				break
			}
			most, e := Record(long(n))
			equal(t, fmt.Sprint("error of Record of bytes ", n), e, api.OK)
			equal(t, fmt.Sprint("fits in ", size, " behind ", used), used+len(most) <= size, true)
			more, e := Record(long(n + 1))
			equal(t, fmt.Sprint("a byte longer fits in ", size, " behind ", used), e == api.OK && used+len(more) <= size, false)
			small, _ := Record(long(min(n, k*37)))
			used += len(small)
		}
	}
}

// P1004

// TestReadOfSomeFirstBytes lays chunks by the package, and cuts them off at each place.
func TestReadOfSomeFirstBytes(t *testing.T) {
	for _, l := range [][]string{nil, {""}, {"", "", ""}, {"ab", "", "c"}, {finish(8, 0), finish(8, 1), start(8, 700)[:20]}, {strings.Repeat("\x00", 40), strings.Repeat("\xff", 40)}, {"a", long(longest), "", long(300), "b"}} {
		b, e := Start(8, 700)
		equal(t, "error of Start", e, api.OK)
		ends := []int{len(b)} // of the start, and of each record
		for _, body := range l {
			s, e := Record(body)
			equal(t, "error of Record", e, api.OK)
			b += s
			ends = append(ends, len(b))
		}
		end, e := Finish(8, len(l))
		equal(t, "error of Finish", e, api.OK)
		b += end
		cutOff(t, b, l, ends)
	}
}

// cutOff holds what Read tells of each of the first bytes of a done chunk of the number 8 and the size 700.
func cutOff(t *testing.T, b string, l []string, ends []int) {
	t.Helper()
	there := 0
	for k := range len(b) + 1 {
		what := fmt.Sprint("first bytes ", k)
		if there < len(l) && k == ends[there+1] {
			there++
		}
		switch {
		case k < ends[0]:
			refuses(t, what, b[:k])
		case k < len(b):
			reads(t, what, b[:k], Scan{Number: 8, Size: 700, Bodies: l[:there], Good: ends[there]})
		default:
			reads(t, what, b, Scan{Number: 8, Size: 700, Bodies: l, Good: len(b), Done: true})
		}
	}
	equal(t, "records that were there at last", there, len(l))
}

// TestGoneOnWith: what was cut off at Good is gone on with, and read as if nothing had been lost.
func TestGoneOnWith(t *testing.T) {
	whole := start(3, 500) + record("a") + record("bcd")
	for k := 33; k <= len(whole); k++ {
		s, e := Read(whole[:k])
		equal(t, "error of Read", e, api.OK)
		b := whole[:s.Good] + record("new") + finish(3, len(s.Bodies)+1)
		reads(t, fmt.Sprint("gone on with behind ", k), b, Scan{Number: 3, Size: 500, Bodies: append(s.Bodies, "new"), Good: len(b), Done: true})
	}
}
