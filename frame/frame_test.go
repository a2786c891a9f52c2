package frame

import (
	"encoding/binary"
	"fmt"
	"hash/crc32"
	"math"
	"slices"
	"strings"
	"testing"
	"unsafe"

	"chronicle/api"
)

const mostBody = 4000

func equal[T comparable](t *testing.T, what string, got, want T) {
	t.Helper()
	if got != want {
		t.Errorf("%s: %#v, not %#v", what, got, want)
	}
}

// long is a text of so many bytes, none of them like the next one.
func long(bytes int) string {
	b := make([]byte, bytes)
	for k := range b {
		b[k] = byte(k*k*31 + k + bytes*73)
	}
	return string(b)
}

func layInt(v uint32) string { return string(binary.BigEndian.AppendUint32(nil, v)) }

// layWith lays the parts of a frame, whether they fit each other or not.
func layWith(front, sum uint32, body string, back uint32) string {
	return layInt(front) + layInt(sum) + body + layInt(back)
}

func sumOf(length uint32, body string) uint32 {
	return crc32.ChecksumIEEE([]byte(layInt(length) + body))
}

// lay is the frame of a body, reckoned without the package, and of bodies that are too long, too.
func lay(body string) string {
	n := uint32(len(body))
	return layWith(n, sumOf(n, body), body, n)
}

// bodies may be put; some hold what looks like frames.
func bodies() []string {
	l := []string{"", "\x00", "a", "ab", "\xff\xff\xff\xff", "\x00\x00\x00\x00", "\u00e9\u4e16\n", strings.Repeat("\x00", 30), strings.Repeat("\xff", 30), lay(""), lay("ab"), lay("") + lay("ab"), lay("ab")[1:], lay("ab")[:13]}
	for _, n := range []int{3, 11, 12, 13, 255, 256, 257, 1000, mostBody - 1, mostBody} {
		l = append(l, long(n))
	}
	return l
}

// finder is First or Last.
type finder func(b string) (string, int, api.Errno)

// tells holds what a finder must tell of b.
func tells(t *testing.T, what string, find finder, b, body string, size int, want api.Errno) {
	t.Helper()
	s, n, e := find(b)
	equal(t, what+": body", s, body)
	equal(t, what+": bytes", n, size)
	equal(t, what+": error", e, want)
}

// refuses holds that a finder tells an error of b, and nothing beside it.
func refuses(t *testing.T, what string, find finder, b string, want api.Errno) {
	t.Helper()
	tells(t, what, find, b, "", 0, want)
}

// lists holds what All must tell of b.
func lists(t *testing.T, what, b string, want []string, size int) {
	t.Helper()
	l, n := All(b)
	if !slices.Equal(l, want) {
		t.Errorf("%s: %d bodies %.200q, not %d %.200q", what, len(l), l, len(want), want)
	}
	equal(t, what+": bytes", n, size)
}

// ends holds both ends of one frame: First and Last tell the same of it.
func ends(hand func(what string, find finder)) {
	hand("First", First)
	hand("Last", Last)
}

// lies says whether a text's bytes are some of another one's.
func lies(s, in string) bool {
	at, from := uintptr(unsafe.Pointer(unsafe.StringData(s))), uintptr(unsafe.Pointer(unsafe.StringData(in)))
	return from <= at && at < from+uintptr(len(in))
}

// P801: Put

func TestPutOfKnownBodies(t *testing.T) {
	for body, want := range map[string]string{
		"":   "\x00\x00\x00\x00" + "\x21\x44\xdf\x1c" + "\x00\x00\x00\x00",
		"ab": "\x00\x00\x00\x02" + "\x6d\x1c\x2f\x5f" + "ab" + "\x00\x00\x00\x02",
	} {
		b, e := Put(body)
		equal(t, "Put of "+body, b, want)
		equal(t, "error of Put", e, api.OK)
	}
}

func TestPut(t *testing.T) {
	equal(t, "Over", Over, 12)
	for _, body := range bodies() {
		b, e := Put(body)
		what := fmt.Sprintf("Put of %d bytes %.20q", len(body), body)
		equal(t, what+": error", e, api.OK)
		equal(t, what+": length", len(b), len(body)+12)
		equal(t, what, b, lay(body))
	}
}

func TestPutOfTooLong(t *testing.T) {
	for _, n := range []int{mostBody + 1, mostBody + 2, 2 * mostBody, 65535, 65536, 65537, 100000} {
		b, e := Put(long(n))
		equal(t, fmt.Sprint("Put of bytes ", n), b, "")
		equal(t, fmt.Sprint("error of Put of bytes ", n), e, api.ErrLong)
	}
}

// P801: First and Last

func TestOneFrameFromBothEnds(t *testing.T) {
	for _, body := range bodies() {
		ends(func(what string, find finder) {
			tells(t, what, find, lay(body), body, len(body)+12, api.OK)
		})
	}
}

// TestWhatStandsBeside: neither end hangs on what stands at the other one.
func TestWhatStandsBeside(t *testing.T) {
	for _, body := range bodies() {
		b := lay(body)
		for _, more := range []string{"\x00", "x", "\xff\xff\xff\xff", "\x00\x00\x0f\xa1", layInt(uint32(len(body))), lay(""), lay("another"), lay("ab")[3:], lay("ab")[:9], long(5000)} {
			tells(t, "First with more behind", First, b+more, body, len(b), api.OK)
			tells(t, "Last with more ahead", Last, more+b, body, len(b), api.OK)
		}
	}
}

func TestFewerThanOver(t *testing.T) {
	for n := range 12 {
		for _, b := range []string{strings.Repeat("\x00", n), strings.Repeat("\xff", n), strings.Repeat("\x00\x00\x0f\xa1", 3)[:n], lay("")[:n], lay("")[12-n:], lay("ab")[:n], lay("ab")[14-n:], long(n)} {
			ends(func(what string, find finder) {
				refuses(t, fmt.Sprintf("%s of %q", what, b), find, b, api.ErrShort)
			})
		}
	}
}

func TestLengthAboveTheLongestBody(t *testing.T) {
	for _, n := range []uint32{mostBody + 1, mostBody + 2, 65536, 1 << 24, math.MaxInt32, 1 << 31, math.MaxUint32 - 12, math.MaxUint32 - 11, math.MaxUint32} {
		for _, body := range []string{"", "ab", long(mostBody), long(mostBody + 1), long(mostBody + 2), long(70000)} {
			whole := layWith(n, sumOf(n, body), body, n)
			ends(func(what string, find finder) {
				refuses(t, fmt.Sprint(what, " of the length ", n), find, whole, api.ErrForm)
			})
			refuses(t, fmt.Sprint("First of the length ", n), First, layWith(n, 1, body, 2), api.ErrForm)
			refuses(t, fmt.Sprint("Last of the length ", n), Last, layWith(2, 1, body, n), api.ErrForm)
		}
	}
}

func TestTheLongestBodyAndOneMore(t *testing.T) {
	ends(func(what string, find finder) {
		tells(t, what+" of the longest", find, lay(long(mostBody)), long(mostBody), mostBody+12, api.OK)
		refuses(t, what+" of one more", find, lay(long(mostBody+1)), api.ErrForm)
	})
}

func TestFewerBytesThanTheFrameHas(t *testing.T) {
	for _, body := range bodies() {
		b := lay(body)
		step := 1 + len(b)/50
		for k := 1; k < len(b); k += step {
			refuses(t, fmt.Sprint("First without its last bytes ", k), First, b[:len(b)-k], api.ErrShort)
			refuses(t, fmt.Sprint("Last without its first bytes ", k), Last, b[k:], api.ErrShort)
		}
	}
	for n := uint32(1); n <= mostBody; n += 93 {
		few := strings.Repeat("x", int(n)-1)
		refuses(t, fmt.Sprint("First of the length ", n, ", one byte fewer"), First, layWith(n, 1, few, 2), api.ErrShort)
		refuses(t, fmt.Sprint("Last of the length ", n, ", one byte fewer"), Last, layWith(2, 1, few, n), api.ErrShort)
		refuses(t, fmt.Sprint("First of the length ", n, " alone"), First, layWith(n, 1, "", 2), api.ErrShort)
		refuses(t, fmt.Sprint("Last of the length ", n, " alone"), Last, layWith(2, 1, "", n), api.ErrShort)
	}
}

func TestAnotherLengthAtTheOtherEnd(t *testing.T) {
	for _, body := range bodies() {
		n := uint32(len(body))
		for _, other := range []uint32{n + 1, n - 1, n ^ 1, n ^ 1<<8, n ^ 1<<16, n ^ 1<<24, n ^ 1<<31, n + 12, mostBody + 1, math.MaxUint32} {
			for _, sum := range []uint32{sumOf(n, body), sumOf(other, body), 0, ^sumOf(n, body)} {
				refuses(t, fmt.Sprint("First with the length ", other, " at the end of ", n), First, layWith(n, sum, body, other), api.ErrForm)
				refuses(t, fmt.Sprint("Last with the length ", other, " at the front of ", n), Last, layWith(other, sum, body, n), api.ErrForm)
			}
		}
	}
}

func TestWrongSum(t *testing.T) {
	for _, body := range bodies() {
		n := uint32(len(body))
		good := sumOf(n, body)
		wrong := []uint32{good + 1, good - 1, ^good, good ^ 1<<31, good ^ 1<<16, sumOf(n+1, body), sumOf(n, body+"\x00")}
		for _, other := range []uint32{0, math.MaxUint32, crc32.ChecksumIEEE([]byte(body)), crc32.ChecksumIEEE([]byte(body + layInt(n))), crc32.ChecksumIEEE([]byte(layInt(n) + body + layInt(n)))} {
			if other != good {
				wrong = append(wrong, other)
			}
		}
		for _, sum := range wrong {
			ends(func(what string, find finder) {
				refuses(t, fmt.Sprintf("%s with the sum %x, not %x", what, sum, good), find, layWith(n, sum, body, n), api.ErrSum)
			})
		}
	}
}

// TestLowestFirst: a frame whose numbers are laid the other way round is none.
func TestLowestFirst(t *testing.T) {
	turn := func(s string) string { return layInt(binary.LittleEndian.Uint32([]byte(s))) }
	b := lay("ab")
	ends(func(what string, find finder) {
		refuses(t, what+": lengths", find, turn(b[:4])+b[4:10]+turn(b[10:]), api.ErrForm)
		refuses(t, what+": sum", find, b[:4]+turn(b[4:8])+b[8:], api.ErrSum)
	})
}

// errorOfTurned is what must be told of a lone frame in which the byte at k was turned, by the finder whose own length stands from own on.
func errorOfTurned(b string, k, own int) api.Errno {
	length := binary.BigEndian.Uint32([]byte(b[own : own+4]))
	switch {
	case k >= 4 && k < len(b)-4:
		return api.ErrSum
	case k < own || k >= own+4 || length > mostBody || int(length)+12 < len(b):
		return api.ErrForm
	}
	return api.ErrShort
}

func TestEachByteTurned(t *testing.T) {
	for _, body := range []string{"", "a", "\x00\x01\x02", "123456789", strings.Repeat("x", 30), lay("ab") + lay("")} {
		b := lay(body)
		for k := range len(b) {
			for x := 1; x < 256; x++ {
				turned := b[:k] + string([]byte{b[k] ^ byte(x)}) + b[k+1:]
				what := fmt.Sprintf(" of %q, byte %d turned by %d", b, k, x)
				refuses(t, "First"+what, First, turned, errorOfTurned(turned, k, 0))
				refuses(t, "Last"+what, Last, turned, errorOfTurned(turned, k, len(b)-4))
			}
		}
	}
}

// TestAShorterFrameWithin: a length at one end that leads to a frame which is whole is taken as it stands there.
func TestAShorterFrameWithin(t *testing.T) {
	outer := lay(lay("ab"))
	tells(t, "First of what the body begins with", First, outer[8:], "ab", 14, api.OK)
	tells(t, "Last of what the body ends with", Last, outer[:22], "ab", 14, api.OK)
	ends(func(what string, find finder) {
		tells(t, what+" of both", find, outer, lay("ab"), 26, api.OK)
	})
	zeros := strings.Repeat("\x00", 40)
	ends(func(what string, find finder) {
		refuses(t, what+" of noughts alone", find, zeros, api.ErrSum)
	})
}

func TestFirstAndLastAreNewMemory(t *testing.T) {
	b := lay(long(100))
	ends(func(what string, find finder) {
		one, _, _ := find(b)
		two, _, _ := find(b)
		equal(t, what+" shares with the bytes", lies(one, b), false)
		equal(t, what+" shares with another answer", lies(one, two), false)
	})
	body := long(100)
	put, _ := Put(body)
	equal(t, "Put shares with the body", lies(body, put), false)
}

// P802

func TestAll(t *testing.T) {
	lists(t, "none", "", nil, 0)
	lists(t, "one of no bytes", lay(""), []string{""}, 12)
	lists(t, "one", lay("ab"), []string{"ab"}, 14)
	lists(t, "twins", lay("ab")+lay("ab")+lay("ab"), []string{"ab", "ab", "ab"}, 42)
	lists(t, "a frame in a frame", lay(lay("ab")), []string{lay("ab")}, 26)
	lists(t, "many of no bytes", strings.Repeat(lay(""), 20000), make([]string, 20000), 240000)
	whole := ""
	for k, body := range bodies() {
		lists(t, fmt.Sprint("first bodies ", k), whole, bodies()[:k], len(whole))
		whole += lay(body)
	}
	lists(t, "each", whole, bodies(), len(whole))
}

// nones are bytes whose front is no frame.
func nones() map[string]string {
	b := lay("ab")
	return map[string]string{
		"a byte":                 "x",
		"a text":                 "rest",
		"many bytes":             long(5000),
		"noughts":                strings.Repeat("\x00", 100),
		"greatest bytes":         strings.Repeat("\xff", 100),
		"a frame cut off":        b[:13],
		"a frame begun too late": b[1:],
		"another front":          "\x00\x00\x00\x01" + b[4:],
		"another sum":            b[:4] + "x" + b[5:],
		"another body":           b[:8] + "x" + b[9:],
		"another end":            b[:13] + "\x03",
		"a longer body":          lay(long(mostBody + 1)),
	}
}

func TestAllUpToTheFirstThatIsNone(t *testing.T) {
	for what, none := range nones() {
		lists(t, what+" alone", none, nil, 0)
		lists(t, what+" ahead", none+lay("c")+lay("d"), nil, 0)
		lists(t, what+" behind", lay("c")+lay("")+none, []string{"c", ""}, 25)
		lists(t, what+" between", lay("c")+lay("d")+none+lay("e"), []string{"c", "d"}, 26)
	}
}

func TestAllIsNewMemory(t *testing.T) {
	b := lay(long(50)) + lay(long(50))
	one, _ := All(b)
	two, _ := All(b)
	equal(t, "how many", len(one)+len(two), 4)
	for _, s := range one {
		equal(t, "shares with the bytes", lies(s, b), false)
	}
	equal(t, "share with each other", lies(one[0], one[1]) || lies(one[0], two[0]), false)
	one[0] = "turned"
	equal(t, "another answer", two[0], long(50))
	lists(t, "a third one", b, []string{long(50), long(50)}, len(b))
}

// P803

// TestAllOfSomeFirstBytes puts bodies by Put, and cuts them off at each place.
func TestAllOfSomeFirstBytes(t *testing.T) {
	for _, list := range [][]string{nil, {""}, {"", "", ""}, {"ab", "", "c"}, {lay("ab"), lay(""), lay("ab")[:13]}, {strings.Repeat("\x00", 40), strings.Repeat("\xff", 40)}, {"a", long(mostBody), "", long(300), "b"}} {
		whole, starts := "", []int{0}
		for _, body := range list {
			b, e := Put(body)
			equal(t, "error of Put", e, api.OK)
			whole += b
			starts = append(starts, len(whole))
		}
		there := 0
		for k := range len(whole) + 1 {
			if there < len(list) && k == starts[there+1] {
				there++
			}
			lists(t, fmt.Sprint("first bytes ", k), whole[:k], list[:there], starts[there])
		}
		equal(t, "frames that were there at last", there, len(list))
	}
}

// TestFoundFromBothEnds goes through frames from the front on, and back again.
func TestFoundFromBothEnds(t *testing.T) {
	whole := ""
	for _, body := range bodies() {
		b, _ := Put(body)
		whole += b
	}
	rest := whole
	for _, body := range bodies() {
		tells(t, "from the front on", First, rest, body, len(body)+12, api.OK)
		rest = rest[len(body)+12:]
	}
	equal(t, "left at the end", rest, "")
	for _, body := range slices.Backward(bodies()) {
		tells(t, "from the end on", Last, whole, body, len(body)+12, api.OK)
		whole = whole[:len(whole)-len(body)-12]
	}
	equal(t, "left at the front", whole, "")
}
