package check

import (
	"hash/crc32"
	"slices"
	"strings"
	"testing"
	"unsafe"

	"chronicle/api"
)

func equal[T comparable](t *testing.T, what string, got, want T) {
	t.Helper()
	if got != want {
		t.Errorf("%s: %#v, not %#v", what, got, want)
	}
}

// opens says what Open must tell of b.
func opens(t *testing.T, what, b, want string, e api.Errno) {
	t.Helper()
	s, err := Open(b)
	equal(t, what+": text", s, want)
	equal(t, what+": error", err, e)
}

// everyByte holds each byte once.
func everyByte() string {
	b := make([]byte, 256)
	for k := range b {
		b[k] = byte(k)
	}
	return string(b)
}

func texts() []string {
	l := []string{"", "\x00", "\x00\x00\x00\x00", "\xff", "\xff\xff\xff\xff", "a", "ab", "123456789", "\u00e4\u4e16", everyByte(), strings.Repeat("long", 5000)}
	for n := range 100 {
		b := make([]byte, n)
		for k := range b {
			b[k] = byte(k*k*31 + n*73)
		}
		l = append(l, string(b))
	}
	return l
}

// P201

func TestSumOfKnownTexts(t *testing.T) {
	for s, want := range map[string]uint32{
		"":                 0,
		"\x00":             0xd202ef8d,
		"\x00\x00\x00\x00": 0x2144df1c,
		"\xff":             0xff000000,
		"\xff\xff\xff\xff": 0xffffffff,
		"a":                0xe8b7be43,
		"123456789":        0xcbf43926,
		"The quick brown fox jumps over the lazy dog": 0x414fa339,
	} {
		equal(t, "Sum of "+s, Sum(s), want)
	}
}

func TestSumOfNothing(t *testing.T) {
	equal(t, "no text", Sum(), 0)
	equal(t, "a nil list", Sum([]string(nil)...), 0)
	equal(t, "an empty list", Sum([]string{}...), 0)
	equal(t, "empty texts", Sum("", "", ""), 0)
}

func TestSumIsThatOfTheLibrary(t *testing.T) {
	for _, s := range texts() {
		equal(t, "Sum", Sum(s), crc32.ChecksumIEEE([]byte(s)))
	}
}

func TestSumOfSeveralIsThatOfOne(t *testing.T) {
	equal(t, "example", Sum("1234", "56789"), 0xcbf43926)
	s := "123456789"
	for i := range len(s) + 1 {
		equal(t, "two", Sum(s[:i], s[i:]), 0xcbf43926)
		equal(t, "with none between", Sum("", s[:i], "", s[i:], ""), 0xcbf43926)
		for j := range i + 1 {
			equal(t, "three", Sum(s[:j], s[j:i], s[i:]), 0xcbf43926)
		}
	}
	equal(t, "one a byte", Sum(strings.Split(s, "")...), 0xcbf43926)
}

func TestSumHangsOnTheOrder(t *testing.T) {
	equal(t, "order", Sum("56789", "1234") == Sum("1234", "56789"), false)
	equal(t, "a nought ahead", Sum("\x00", "a") == Sum("a"), false)
	equal(t, "a nought behind", Sum("a", "\x00") == Sum("a"), false)
}

func TestSumLeavesItsList(t *testing.T) {
	l := []string{"1234", "", "56789", "more"}
	was := slices.Clone(l)
	for range 2 {
		equal(t, "a part of a list", Sum(l[:3]...), 0xcbf43926)
	}
	equal(t, "the list", slices.Equal(l, was), true)
}

// P202

func TestSealLaysTheHighestFirst(t *testing.T) {
	equal(t, "none", Seal(""), "\x00\x00\x00\x00")
	equal(t, "a nought", Seal("\x00"), "\xd2\x02\xef\x8d\x00")
	equal(t, "a text", Seal("123456789"), "\xcb\xf4\x39\x26123456789")
	equal(t, "a low sum", Seal("\xff"), "\xff\x00\x00\x00\xff")
}

func TestSealHasFourBytesMore(t *testing.T) {
	for _, s := range texts() {
		b := Seal(s)
		equal(t, "length", len(b), len(s)+4)
		equal(t, "text", b[4:], s)
	}
}

func TestOpen(t *testing.T) {
	opens(t, "none", "\x00\x00\x00\x00", "", api.OK)
	opens(t, "a text", "\xcb\xf4\x39\x26123456789", "123456789", api.OK)
	opens(t, "a sealed one that is sealed", Seal(Seal("ab")), Seal("ab"), api.OK)
}

func TestOpenOfTooFew(t *testing.T) {
	for _, b := range []string{"\x00\x00\x00\x00", "\xcb\xf4\x39\x26", "\xff\xff\xff\xff", Seal("ab")} {
		for n := range 4 {
			opens(t, "too few", b[:n], "", api.ErrShort)
		}
	}
}

func TestOpenOfAnotherSum(t *testing.T) {
	for what, b := range map[string]string{
		"a sum alone":         "\xcb\xf4\x39\x26",
		"four bytes":          "\xff\xff\xff\xff",
		"the lowest first":    "\x26\x39\xf4\xcb123456789",
		"the sum behind":      "123456789\xcb\xf4\x39\x26",
		"not turned over":     "\x34\x0b\xc6\xd9123456789",
		"no sum":              "123456789",
		"fewer bytes":         "\xcb\xf4\x39\x2612345678",
		"more bytes":          "\xcb\xf4\x39\x26123456789x",
		"a nought more":       "\xcb\xf4\x39\x26123456789\x00",
		"another text's sum":  Seal("ab")[:4] + "ba",
		"one of nothing else": "\x00\x00\x00\x00\x00",
	} {
		opens(t, what, b, "", api.ErrSum)
	}
}

// lies says whether a text's bytes are some of another one's.
func lies(s, in string) bool {
	at, from := uintptr(unsafe.Pointer(unsafe.StringData(s))), uintptr(unsafe.Pointer(unsafe.StringData(in)))
	return from <= at && at < from+uintptr(len(in))
}

func TestAnswersAreNewMemory(t *testing.T) {
	s := strings.Repeat("text", 20)
	b := Seal(s)
	equal(t, "Seal shares", lies(s, b) || lies(b, s), false)
	got, _ := Open(b)
	equal(t, "Open shares", lies(got, b), false)
	again, _ := Open(b)
	equal(t, "two answers share", lies(again, got), false)
}

// P203

func TestOpenOfSeal(t *testing.T) {
	for _, s := range texts() {
		opens(t, "there and back", Seal(s), s, api.OK)
	}
}

func TestOpenOfAChangedByte(t *testing.T) {
	for _, s := range []string{"", "\x00", "a", "\x00\x00\x00\x00", "123456789", "\xff\xff\xff\xff\xff", everyByte()} {
		b := Seal(s)
		for k := range len(b) {
			for x := 1; x < 256; x++ {
				changed := b[:k] + string([]byte{b[k] ^ byte(x)}) + b[k+1:]
				if got, e := Open(changed); got != "" || e != api.ErrSum {
					t.Fatalf("byte %d of %q, by %d: %q, %d", k, b, x, got, e)
				}
			}
		}
	}
}
