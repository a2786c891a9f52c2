package meta

import (
	"fmt"
	"math"
	"math/big"
	"regexp"
	"slices"
	"strings"
	"testing"
	"unsafe"

	"chronicle/api"
)

const bound = 1 << 40

func equal[T comparable](t *testing.T, what string, got, want T) {
	t.Helper()
	if got != want {
		t.Errorf("%s: %#v, not %#v", what, got, want)
	}
}

// of is metadata in few letters.
func of(count, age, before int) api.Meta {
	return api.Meta{MaxCount: count, MaxAge: age, Before: before}
}

// goodNumbers may stand in metadata.
func goodNumbers() []int {
	return []int{0, 1, 2, 9, 10, 11, 99, 100, 258, 1<<31 - 1, 1 << 32, 1_000_000_000_000, bound - 1, bound}
}

// badNumbers may not.
func badNumbers() []int {
	return []int{-1, -2, -10, -bound, math.MinInt, math.MinInt + 1, bound + 1, bound + 2, 1 << 41, 1 << 62, math.MaxInt}
}

// plainText tells a text of metadata that may be, written down plainly.
func plainText(m api.Meta) string {
	s := ""
	if m.MaxCount != 0 {
		s += fmt.Sprintf(" count=%d", m.MaxCount)
	}
	if m.MaxAge != 0 {
		s += fmt.Sprintf(" age=%d", m.MaxAge)
	}
	if m.Before != 0 {
		s += fmt.Sprintf(" before=%d", m.Before)
	}
	if s == "" {
		return "-"
	}
	return s[1:]
}

var plainWord = regexp.MustCompile(`^(count|age|before)=([1-9][0-9]*)$`)

// plainParse tells the metadata of a text, and whether it is one, word by word.
func plainParse(s string) (api.Meta, bool) {
	if s == "-" {
		return api.Meta{}, true
	}
	var values [3]int
	last := -1
	for _, word := range strings.Split(s, " ") {
		found := plainWord.FindStringSubmatch(word)
		if found == nil {
			return api.Meta{}, false
		}
		k := slices.Index([]string{"count", "age", "before"}, found[1])
		v, _ := new(big.Int).SetString(found[2], 10)
		if k <= last || v.Cmp(big.NewInt(bound)) > 0 {
			return api.Meta{}, false
		}
		last, values[k] = k, int(v.Int64())
	}
	return of(values[0], values[1], values[2]), true
}

// parses holds what Parse must tell of s.
func parses(t *testing.T, s string, want api.Meta, wanted api.Errno) {
	t.Helper()
	m, e := Parse(s)
	equal(t, fmt.Sprintf("error of Parse(%.200q)", s), e, wanted)
	equal(t, fmt.Sprintf("Parse(%.200q)", s), m, want)
}

// refused holds that s is no text of metadata.
func refused(t *testing.T, s string) {
	t.Helper()
	parses(t, s, api.Meta{}, api.ErrForm)
}

// asPlain holds what Parse tells of s against what it says word by word.
func asPlain(t *testing.T, s string) {
	t.Helper()
	if m, is := plainParse(s); is {
		parses(t, s, m, api.OK)
	} else {
		refused(t, s)
	}
}

// P1501

func TestTextAndParseOfTexts(t *testing.T) {
	for want, m := range map[string]api.Meta{
		"-":                                 {},
		"count=1":                           of(1, 0, 0),
		"age=5":                             of(0, 5, 0),
		"before=9":                          of(0, 0, 9),
		"count=1 age=2":                     of(1, 2, 0),
		"count=1 before=3":                  of(1, 0, 3),
		"age=2 before=3":                    of(0, 2, 3),
		"count=1 age=2 before=3":            of(1, 2, 3),
		"count=10 age=200 before=3000":      of(10, 200, 3000),
		"count=1099511627776 before=7":      of(bound, 0, 7),
		"age=1099511627775":                 of(0, bound-1, 0),
		"count=7 age=7 before=7":            of(7, 7, 7),
		"age=1099511627776 before=99999999": of(0, bound, 99999999),
	} {
		s, e := Text(m)
		equal(t, fmt.Sprint("error of Text of ", m), e, api.OK)
		equal(t, fmt.Sprint("Text of ", m), s, want)
		parses(t, want, m, api.OK)
	}
}

func TestTextIsParsedBack(t *testing.T) {
	for _, count := range goodNumbers() {
		for _, age := range goodNumbers() {
			for _, before := range goodNumbers() {
				m := of(count, age, before)
				s, e := Text(m)
				equal(t, fmt.Sprint("error of Text of ", m), e, api.OK)
				equal(t, fmt.Sprint("Text of ", m), s, plainText(m))
				parses(t, s, m, api.OK)
			}
		}
	}
}

func TestTextOfWhatMayNotBe(t *testing.T) {
	for _, bad := range badNumbers() {
		for _, good := range goodNumbers() {
			for _, m := range []api.Meta{of(bad, good, good), of(good, bad, good), of(good, good, bad), of(bad, bad, good), of(bad, bad, bad), of(bad, 0, good), of(0, good, bad)} {
				s, e := Text(m)
				equal(t, fmt.Sprint("error of Text of ", m), e, api.ErrArg)
				equal(t, fmt.Sprint("Text of ", m), s, "")
			}
		}
	}
}

func TestParseOfWrongTexts(t *testing.T) {
	for _, s := range []string{
		"", " ", "--", "- ", " -", "-\n", "- age=1", "age=1 -", "-1", "0", "1", "=", "=1", "x", "\x00", "\xff",
		"count", "count=", "count=x", "count 1", "count1", "count==1", "count=1=", "count=1=1", "count= 1", "count =1", "count:1",
		"count=0", "age=0", "before=0", "count=0 age=0 before=0", "count=1 age=0", "count=0 age=1", "count=1 age=0 before=2",
		"count=01", "count=001", "count=00", "age=2 before=03", "count=-1", "count=-0", "count=+1", "count=--1", "count=-", "age=-5 before=2",
		"count=1.0", "count=1e3", "count=0x1", "count=1_0", "count=1,2", "count=\u0661", "count=1\x00", "count=1\n", "count=1\t", "\ufeffcount=1",
		"count=1 ", " count=1", "count=1  age=2", "count=1 age=2 ", "count=1\tage=2", "count=1,age=2", "count=1age=2", "count=1\u00a0age=2", "count=1 \n age=2",
		"count=1 x", "count=1 x=2", "x=1", "count=1 age", "count=1 age=", "Count=1", "AGE=1", "Before=1", "ount=1", "counts=1", "xcount=1", "maxcount=1",
		"count=1 count=1", "count=1 count=2", "age=1 age=1", "before=1 before=1", "count=1 age=2 before=3 before=3", "count=1 age=2 before=3 count=1", "count=1 age=2 before=3 x",
		"count=1099511627777", "age=1099511627777", "before=1099511627777", "count=1 age=2 before=1099511627777",
		"count=999999999999999999", "count=1000000000000000000", "count=9223372036854775807", "count=9223372036854775808", "count=18446744073709551617", "age=99999999999999999999999999",
	} {
		refused(t, s)
	}
}

func TestParseOfEachOrder(t *testing.T) {
	words := []string{"count=4", "age=5", "before=6"}
	for _, order := range [][]int{{0, 1, 2}, {0, 2, 1}, {1, 0, 2}, {1, 2, 0}, {2, 0, 1}, {2, 1, 0}, {0, 1}, {1, 0}, {0, 2}, {2, 0}, {1, 2}, {2, 1}} {
		var l []string
		var values [3]int
		for _, k := range order {
			l, values[k] = append(l, words[k]), 4+k
		}
		s := strings.Join(l, " ")
		if slices.IsSorted(order) {
			parses(t, s, of(values[0], values[1], values[2]), api.OK)
		} else {
			refused(t, s)
		}
	}
}

func TestParseOfTurnedTexts(t *testing.T) {
	taken := 0
	for _, m := range []api.Meta{{}, of(1, 2, 3), of(10, 0, 0), of(0, 99, 0), of(0, 0, bound), of(7, 0, 1), of(bound-1, 100, 0), of(0, 20, 5)} {
		s := plainText(m)
		for k := range len(s) + 1 {
			asPlain(t, s[:k])
			asPlain(t, s[k:])
			for c := range 256 {
				one := string([]byte{byte(c)})
				asPlain(t, s[:k]+one+s[k:])
				if k < len(s) {
					asPlain(t, s[:k]+one+s[k+1:])
					asPlain(t, s[:k]+s[k+1:])
				}
				if _, is := plainParse(s[:k] + one + s[k:]); is {
					taken++
				}
			}
		}
	}
	equal(t, "whether some may be", taken > 100, true)
}

// TestParseOfPieces takes all texts of up to four pieces.
func TestParseOfPieces(t *testing.T) {
	pieces := []string{"count=", "age=", "before=", "count=3", "age=3", "before=3", " ", "-", "0", "7", "="}
	texts := []string{""}
	for range 4 {
		var longer []string
		for _, s := range texts {
			for _, piece := range pieces {
				asPlain(t, s+piece)
				longer = append(longer, s+piece)
			}
		}
		texts = longer
	}
}

func TestParseOfLongTexts(t *testing.T) {
	for _, s := range []string{
		strings.Repeat(" ", 1_000_000), strings.Repeat("count=1 ", 100_000), strings.Repeat("-", 1_000_000),
		"count=" + strings.Repeat("1", 1_000_000), "count=" + strings.Repeat("0", 1_000_000) + "1", "count=1" + strings.Repeat(" age=1", 100_000),
	} {
		refused(t, s)
	}
}

func TestTextIsNewMemory(t *testing.T) {
	m := of(1, 2, 3)
	one, _ := Text(m)
	two, _ := Text(m)
	equal(t, "shares with another answer", unsafe.StringData(one) == unsafe.StringData(two), false)
	equal(t, "what was handed in", m, of(1, 2, 3))
}
