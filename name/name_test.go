package name

import (
	"fmt"
	"hash/fnv"
	"math"
	"strings"
	"testing"
	"unsafe"

	"chronicle/api"
)

func equal[T comparable](t *testing.T, what string, got, want T) {
	t.Helper()
	if got != want {
		t.Errorf("%s: %#v, not %#v", what, got, want)
	}
}

// everyByte holds the texts of one byte.
func everyByte() []string {
	var l []string
	for c := range 256 {
		l = append(l, string([]byte{byte(c)}))
	}
	return l
}

// long is a text of so many bytes that may stand in a name.
func long(bytes int) string { return strings.Repeat("x", bytes) }

// goods may be names.
func goods() []string {
	return []string{"a", "!", "~", "-", "$", "$$", "$>", "$ce-a", "$et-t", "cart-7", "cart-7-x", "0", "12", "-1", "a.b/c:d", `"\'`, long(59), long(60)}
}

// bads may not be names.
func bads() []string {
	return []string{"", " ", "a b", " a", "a ", "@", "a@b", "@a", "a@", "a\x00", "\x00a", "a\n", "a\x1f", "a\x7f", "\x7fa", "a\x80", "a\xff", "\u00e9", "\u4e16", "a\u00a0b", long(61), long(1000), long(59) + "@", long(59) + " ", long(60) + "\x00", long(60) + "@", strings.Repeat("\u00e9", 30)}
}

// lies says whether a text's bytes are some of another one's.
func lies(s, in string) bool {
	at, from := uintptr(unsafe.Pointer(unsafe.StringData(s))), uintptr(unsafe.Pointer(unsafe.StringData(in)))
	return from <= at && at < from+uintptr(len(in))
}

// P601

// eachNamed holds what both Stream and Type must tell of s.
func eachNamed(t *testing.T, s string, want bool) {
	t.Helper()
	equal(t, fmt.Sprintf("Stream(%q)", s), Stream(s), want)
	equal(t, fmt.Sprintf("Type(%q)", s), Type(s), want)
}

func TestStreamAndType(t *testing.T) {
	for _, s := range goods() {
		eachNamed(t, s, true)
	}
	for _, s := range bads() {
		eachNamed(t, s, false)
	}
}

func TestStreamAndTypeOfEveryByte(t *testing.T) {
	for c, s := range everyByte() {
		want := c >= 33 && c <= 126 && c != 64
		for _, of := range []string{s, s + "ab", "a" + s + "b", "ab" + s, long(59) + s, s + long(59)} {
			eachNamed(t, of, want)
		}
	}
}

func TestStreamAndTypeOfEveryLength(t *testing.T) {
	for n := range 200 {
		eachNamed(t, long(n), n >= 1 && n <= 60)
	}
}

func TestSystem(t *testing.T) {
	for c, s := range everyByte() {
		equal(t, "System of one byte", System(s), c == '$')
		equal(t, "System of more", System(s+"$a"), c == '$')
	}
	for _, s := range []string{"$", "$a", "$$", "$ce-a", "$a b", "$@", "$" + long(100), "$\xff"} {
		equal(t, "System of "+s, System(s), true)
	}
	for _, s := range []string{"", "a$", "a", " $", "\x00$", "ce-$a", "-$"} {
		equal(t, "System of "+s, System(s), false)
	}
}

// sorts holds what Category must tell of s.
func sorts(t *testing.T, s, want string, is bool) {
	t.Helper()
	c, found := Category(s)
	equal(t, fmt.Sprintf("Category(%q)", s), c, want)
	equal(t, fmt.Sprintf("whether Category(%q)", s), found, is)
}

func TestCategory(t *testing.T) {
	for s, want := range map[string]string{
		"cart-7-x":         "cart",
		"cart-7":           "cart",
		"a-":               "a",
		"a--":              "a",
		"a-$b":             "a",
		"a$-b":             "a$",
		"!-~":              "!",
		"0-1":              "0",
		long(59) + "-":     long(59),
		"x-" + long(58):    "x",
		"cart-" + long(55): "cart",
	} {
		sorts(t, s, want, true)
	}
}

func TestCategoryOfNone(t *testing.T) {
	for _, s := range []string{"cart", "a", "-", "--", "-a", "--a", "-a-b", "$", "$-", "$a", "$ce-a", "$et-t", "$-a", "$a-b-c", long(60)} {
		sorts(t, s, "", false)
	}
	for _, s := range bads() {
		sorts(t, s, "", false)
		sorts(t, "a-"+s+"\x00", "", false)
	}
	for _, s := range []string{"a-b c", "a b-c", "a-b@c", "a@b-c", "a-\xff", "\xff-a", "a- ", " -a", long(60) + "-", "a-" + long(59), "cart-" + long(1000)} {
		sorts(t, s, "", false)
	}
}

func TestCategoryOfEveryByte(t *testing.T) {
	for c, s := range everyByte() {
		is := c >= 33 && c <= 126 && c != '@'
		if is && c != '-' && c != '$' {
			sorts(t, s+"-a", s, true)
		} else {
			sorts(t, s+"-a", "", false)
		}
		if is {
			sorts(t, "a-"+s, "a", true)
		} else {
			sorts(t, "a-"+s, "", false)
		}
	}
}

// P602

func TestHashOfKnownTexts(t *testing.T) {
	for s, x := range map[string]uint32{"": 0x811c9dc5, "a": 0xe40c292c, "b": 0xe70c2de5, "foobar": 0xbf9cf968} {
		equal(t, "Hash of "+s, Hash(s), int(x%61))
	}
}

func TestHashIsThatOfTheLibrary(t *testing.T) {
	l := append(append(everyByte(), goods()...), bads()...)
	for n := range 300 {
		b := make([]byte, n)
		for k := range b {
			b[k] = byte(k*k*31 + n*73)
		}
		l = append(l, string(b))
	}
	seen := map[int]bool{}
	for _, s := range l {
		h := fnv.New32a()
		h.Write([]byte(s))
		equal(t, fmt.Sprintf("Hash(%q)", s), Hash(s), int(h.Sum32()%61))
		seen[Hash(s)] = true
	}
	equal(t, "hashes that are seen", len(seen), 61)
}

func TestOfCategoryAndOfType(t *testing.T) {
	for _, s := range append(goods(), bads()...) {
		equal(t, "OfCategory", OfCategory(s), "$ce-"+s)
		equal(t, "OfType", OfType(s), "$et-"+s)
		equal(t, "System", System(OfCategory(s)) && System(OfType(s)), true)
	}
}

// P603

// leads holds what Unlink must tell of s.
func leads(t *testing.T, s string, version int, stream string, e api.Errno) {
	t.Helper()
	v, to, err := Unlink(s)
	equal(t, fmt.Sprintf("version of Unlink(%q)", s), v, version)
	equal(t, fmt.Sprintf("stream of Unlink(%q)", s), to, stream)
	equal(t, fmt.Sprintf("error of Unlink(%q)", s), err, e)
}

func TestLink(t *testing.T) {
	equal(t, "example", Link(3, "cart-7"), "3@cart-7")
	for v, digits := range map[int]string{0: "0", 7: "7", 10: "10", -1: "-1", math.MaxInt: "9223372036854775807", math.MinInt: "-9223372036854775808"} {
		for _, s := range append(goods(), bads()...) {
			equal(t, "Link", Link(v, s), digits+"@"+s)
		}
	}
}

func TestUnlinkOfLink(t *testing.T) {
	for _, v := range []int{0, 1, 9, 10, 120, 1 << 31, 100000000000000000, 999999999999999999} {
		for _, s := range goods() {
			leads(t, Link(v, s), v, s, api.OK)
		}
		for _, s := range bads() {
			leads(t, Link(v, s), 0, "", api.ErrForm)
		}
	}
}

func TestUnlinkOfOtherVersions(t *testing.T) {
	for _, v := range []int{-1, -10, -999999999999999999, 1000000000000000000, math.MaxInt, math.MinInt} {
		leads(t, Link(v, "a"), 0, "", api.ErrForm)
	}
	for _, digits := range []string{"", "-", "-0", "+1", "00", "01", "1x", "x", "x1", " 1", "1 ", "1.0", "1_0", "0x1", "1e3", "\u0661", "1\x00", "0000000000000000001"} {
		leads(t, digits+"@a", 0, "", api.ErrForm)
	}
}

func TestUnlinkOfNone(t *testing.T) {
	for _, s := range []string{"", "@", "@a", "3", "3a", "3@", "3@@", "3@@a", "3@a@", "3@a@b", "3@3@a", "@3@a", "3@a b", "3 a", "a@3@", "3@a\n", "a", "cart-7", "3#a"} {
		leads(t, s, 0, "", api.ErrForm)
	}
}

func TestUnlinkOfEveryByte(t *testing.T) {
	for c, s := range everyByte() {
		if c >= 33 && c <= 126 && c != '@' {
			leads(t, "7@"+s, 7, s, api.OK)
		} else {
			leads(t, "7@"+s, 0, "", api.ErrForm)
		}
		if c >= '0' && c <= '9' {
			leads(t, s+"@a", c-'0', "a", api.OK)
		} else {
			leads(t, s+"@a", 0, "", api.ErrForm)
		}
		if c != '@' {
			leads(t, "7"+s+"a", 0, "", api.ErrForm)
		}
	}
}

func TestAnswersAreNewMemory(t *testing.T) {
	s := "category-" + long(40)
	c, _ := Category(s)
	equal(t, "Category shares", lies(c, s), false)
	again, _ := Category(s)
	equal(t, "two categories share", lies(again, c), false)
	link := Link(3, s)
	equal(t, "Link shares", lies(s, link) || lies(link, s), false)
	_, to, _ := Unlink(link)
	equal(t, "Unlink shares", lies(to, link), false)
	for _, of := range []string{OfCategory(s), OfType(s)} {
		equal(t, "a stream of links shares", lies(s, of) || lies(of, s), false)
	}
}
