package prog

import (
	"fmt"
	"math"
	"slices"
	"strings"
	"testing"

	"chronicle/api"
	"chronicle/guard"
)

const oneNaN = 0x7ff8000000000000

var (
	fine    = guard.Fault{}
	missing = guard.Fault{Err: api.ErrFault, Kind: guard.Runtime}
	failed  = guard.Fault{Err: api.ErrFault, Kind: guard.Words, Text: "fail"}
	notOne  = guard.Fault{Err: api.ErrForm, Kind: guard.Number}
	none    = guard.Fault{Err: api.ErrForm, Kind: guard.Fine}
)

func equal[T comparable](t *testing.T, what string, got, want T) {
	t.Helper()
	if got != want {
		t.Errorf("%s: %#v, not %#v", what, got, want)
	}
}

// alike holds numbers against each other by their bits.
func alike(t *testing.T, what string, got, want float64) {
	t.Helper()
	if g, w := math.Float64bits(got), math.Float64bits(want); g != w {
		t.Errorf("%s: bits %x, not %x", what, g, w)
	}
}

func theNaN() float64 { return math.Float64frombits(oneNaN) }

func minusZero() float64 { return math.Copysign(0, -1) }

// canon tells a number, of each NaN the one.
func canon(f float64) float64 {
	if f != f {
		return theNaN()
	}
	return f
}

// oddNaNs are other NaNs than the one: quiet and signalling ones, of both signs.
func oddNaNs() []float64 {
	var l []float64
	for _, b := range []uint64{0x7ff8000000000001, 0x7ff0000000000001, 0x7fffffffffffffff, 0xfff8000000000000, 0xfff0000000000001, math.MaxUint64} {
		l = append(l, math.Float64frombits(b))
	}
	return l
}

// rising holds numbers of all kinds in the one order.
func rising() []float64 {
	return []float64{math.Inf(-1), -math.MaxFloat64, -1e15, -3, -1, -0.1, -math.SmallestNonzeroFloat64, minusZero(), 0, math.SmallestNonzeroFloat64, 0.1, 0.5, 1, math.Nextafter(1, 2), 3, 255, 999999999999999, 1e15, 1e300, math.MaxFloat64, math.Inf(1), theNaN()}
}

// w is the word that pushes a number.
func w(f float64) string { return fmt.Sprintf("x%016x", math.Float64bits(f)) }

func words(l ...string) Prog { return Prog{Words: l} }

// parsed is the program of a text that is one.
func parsed(t *testing.T, text string) Prog {
	t.Helper()
	p, e, at := Parse(text)
	equal(t, "error of "+text, e, api.OK)
	equal(t, "place in "+text, at, 0)
	return p
}

// anEnv is what most of the programs here see.
func anEnv() Env {
	return Env{State: 2, Event: api.Event{Id: 77, Type: "made", Data: "abc", Value: 0.5}, Version: 7}
}

// leaves runs a text, and holds the number that is left against the wanted one.
func leaves(t *testing.T, text string, e Env, want float64) {
	t.Helper()
	f, came := parsed(t, text).Run(e)
	equal(t, "Fault of "+text, came, fine)
	alike(t, "number of "+text, f, want)
}

// faults runs a program, and holds the Fault that it comes to against the wanted one.
func faults(t *testing.T, p Prog, e Env, want guard.Fault) {
	t.Helper()
	f, came := p.Run(e)
	equal(t, "Fault of "+p.Text(), came, want)
	alike(t, "number of "+p.Text(), f, 0)
}

// P501

func TestNumbers(t *testing.T) {
	for text, want := range map[string]float64{
		"0": 0, "-0": minusZero(), "1": 1, "-1": -1, "15": 15, "999999999999999": 999999999999999, "-999999999999999": -999999999999999,
		"inf": math.Inf(1), "-inf": math.Inf(-1), "nan": theNaN(),
		"x3fe0000000000000": 0.5, "x8000000000000000": minusZero(), "x7fefffffffffffff": math.MaxFloat64,
		"x7ff0000000000001": theNaN(), "xfff8000000000000": theNaN(), "xffffffffffffffff": theNaN(),
	} {
		leaves(t, text, Env{}, want)
	}
	for _, f := range rising() {
		leaves(t, w(f), Env{}, f)
	}
}

func TestStateAndValue(t *testing.T) {
	for _, f := range append(rising(), oddNaNs()...) {
		leaves(t, "state", Env{State: f, Event: api.Event{Value: 3}}, canon(f))
		leaves(t, "value", Env{State: 3, Event: api.Event{Value: f}}, canon(f))
	}
}

func TestVersion(t *testing.T) {
	for v, want := range map[int]float64{0: 0, 1: 1, 7: 7, -1: -1, 1 << 40: 1 << 40, 1<<53 + 1: 1 << 53, math.MaxInt: 1 << 63, math.MinInt: -1 << 63} {
		leaves(t, "version", Env{Version: v}, want)
	}
}

func TestLen(t *testing.T) {
	for data, want := range map[string]float64{"": 0, "a": 1, "abc": 3, "\u00e4\u4e16": 5, "\xff\x00": 2, strings.Repeat("a", api.MaxData): api.MaxData, strings.Repeat("a", 5000): 5000} {
		leaves(t, "len", Env{Event: api.Event{Data: data}}, want)
	}
}

// everyByte is a text of all bytes, no two alike.
func everyByte() string {
	var b []byte
	for c := range 256 {
		b = append(b, byte(c))
	}
	return string(b)
}

func TestByte(t *testing.T) {
	e := Env{Event: api.Event{Data: everyByte()}}
	for c := range 256 {
		leaves(t, fmt.Sprint(c, " byte"), e, float64(c))
		leaves(t, w(float64(c))+" byte", e, float64(c))
	}
	leaves(t, "-0 byte", anEnv(), 'a')
	leaves(t, "len 1 sub byte", anEnv(), 'c')
	leaves(t, "5 byte", Env{Event: api.Event{Data: "\u00e4\u00e4\u4e16"}}, 0xb8)
	leaves(t, "4999 byte", Env{Event: api.Event{Data: strings.Repeat("a", 4999) + "z"}}, 'z')
}

// ofTwoNumbers are the words that take two numbers, and what each makes of the ones at two places of rising.
func ofTwoNumbers() map[string]func(i, j int) float64 {
	l := rising()
	return map[string]func(i, j int) float64{
		"add": func(i, j int) float64 { return l[i] + l[j] },
		"sub": func(i, j int) float64 { return l[i] - l[j] },
		"mul": func(i, j int) float64 { return l[i] * l[j] },
		"div": func(i, j int) float64 { return l[i] / l[j] },
		"min": func(i, j int) float64 { return l[min(i, j)] },
		"max": func(i, j int) float64 { return l[max(i, j)] },
		"less": func(i, j int) float64 {
			if i < j {
				return 1
			}
			return 0
		},
	}
}

func TestOfTwoNumbers(t *testing.T) {
	l := rising()
	for word, of := range ofTwoNumbers() {
		for i, a := range l {
			for j, b := range l {
				leaves(t, w(a)+" "+w(b)+" "+word, Env{}, canon(of(i, j)))
			}
		}
	}
}

func TestOfTwoNumbersByHand(t *testing.T) {
	for text, want := range map[string]float64{
		"state value add": 2.5, "7 2 add": 9, "7 2 sub": 5, "2 7 sub": -5, "7 2 mul": 14, "7 2 div": 3.5, "2 8 div": 0.25,
		"1 0 div": math.Inf(1), "1 -0 div": math.Inf(-1), "-1 0 div": math.Inf(-1), "0 0 div": theNaN(), "1 inf div": 0, "-1 inf div": minusZero(), "inf inf div": theNaN(),
		"inf inf sub": theNaN(), "inf -inf add": theNaN(), "0 inf mul": theNaN(), "0 -1 mul": minusZero(), "-0 -0 add": minusZero(), "-0 0 add": 0, "-0 0 sub": minusZero(), "3 3 sub": 0,
		"nan 1 add": theNaN(), "1 nan mul": theNaN(),
		"-0 0 min": minusZero(), "0 -0 min": minusZero(), "-0 0 max": 0, "0 -0 max": 0, "3 nan min": 3, "nan 3 min": 3, "3 nan max": theNaN(), "nan inf max": theNaN(),
		"1 2 less": 1, "2 1 less": 0, "1 1 less": 0, "-0 0 less": 1, "0 -0 less": 0, "inf nan less": 1, "nan nan less": 0, "nan -inf less": 0,
	} {
		leaves(t, text, anEnv(), want)
	}
}

// A product that is rounded ahead of its being added is another one than what is rounded once.
func TestEachIsRounded(t *testing.T) {
	a := 1 + 0x1p-30
	leaves(t, w(a)+" dup mul "+w(1+0x1p-29)+" sub", Env{}, 0)
	leaves(t, w(0.1)+" "+w(0.2)+" add", Env{}, math.Float64frombits(0x3fd3333333333334))
	leaves(t, w(1e308)+" 10 mul 10 div", Env{}, math.Inf(1))
}

func TestNeg(t *testing.T) {
	l := rising()
	for k, f := range l[:len(l)-1] {
		leaves(t, w(f)+" neg", Env{}, math.Float64frombits(math.Float64bits(f)^1<<63))
		leaves(t, w(f)+" neg neg", Env{}, l[k])
	}
	leaves(t, "0 neg", Env{}, minusZero())
	leaves(t, "-0 neg", Env{}, 0)
	leaves(t, "nan neg", Env{}, theNaN())
}

func TestDupDropSwap(t *testing.T) {
	for _, f := range append(rising(), oddNaNs()...) {
		leaves(t, w(f)+" dup drop", Env{}, canon(f))
		leaves(t, w(f)+" dup swap drop", Env{}, canon(f))
		leaves(t, w(f)+" 1 drop", Env{}, canon(f))
		leaves(t, w(f)+" 1 swap swap drop", Env{}, canon(f))
		leaves(t, "1 "+w(f)+" swap drop", Env{}, canon(f))
	}
	leaves(t, "5 dup mul", Env{}, 25)
	leaves(t, "5 6 swap sub", Env{}, 1)
}

func TestPick(t *testing.T) {
	for _, c := range append(rising(), oddNaNs()...) {
		want := 1.0
		if c == 0 || c != c {
			want = 2
		}
		leaves(t, "1 2 "+w(c)+" pick", Env{}, want)
		leaves(t, "1 2 state pick", Env{State: c}, want)
	}
	for _, f := range append(rising(), oddNaNs()...) {
		leaves(t, w(f)+" 9 1 pick", Env{}, canon(f))
		leaves(t, "9 "+w(f)+" 0 pick", Env{}, canon(f))
	}
}

// Each word takes so many as it says, and no more: what is below stays.
func TestWhatIsBelowStays(t *testing.T) {
	for text, want := range map[string]float64{
		"100 1 drop": 100, "100 5 neg add": 95, "100 1 2 add sub": 97, "100 1 2 less sub": 99, "100 3 4 min add": 103,
		"100 1 2 swap sub add": 101, "100 5 dup sub sub": 100, "100 1 2 0 pick sub": 98, "100 1 byte add": 198,
		"100 state sub": 98, "100 version sub": 93, "100 len sub": 97, "100 value sub": 99.5,
	} {
		leaves(t, text, anEnv(), want)
	}
}

func TestFail(t *testing.T) {
	for _, text := range []string{"fail", "1 fail", "1 2 fail", "fail fail", "fail add", "fail drop", "fail 1", "1 fail drop", "1 2 add fail"} {
		faults(t, parsed(t, text), anEnv(), failed)
	}
}

// P502

// names are all words that are no numbers, and how many numbers each takes and leaves.
func names() map[string][2]int {
	return map[string][2]int{
		"state": {0, 1}, "value": {0, 1}, "version": {0, 1}, "len": {0, 1}, "byte": {1, 1},
		"add": {2, 1}, "sub": {2, 1}, "mul": {2, 1}, "div": {2, 1}, "neg": {1, 1},
		"min": {2, 1}, "max": {2, 1}, "less": {2, 1},
		"dup": {1, 2}, "drop": {1, 0}, "swap": {2, 2}, "pick": {3, 1}, "fail": {0, 0},
	}
}

func TestParse(t *testing.T) {
	for text, want := range map[string][]string{
		"":                       nil,
		" ":                      nil,
		"      ":                 nil,
		"1":                      {"1"},
		"  1":                    {"1"},
		"1  ":                    {"1"},
		"state value add":        {"state", "value", "add"},
		"  1   state add ":       {"1", "state", "add"},
		"add add":                {"add", "add"},
		"x3fe0000000000000 fail": {"x3fe0000000000000", "fail"},
	} {
		if p := parsed(t, text); !slices.Equal(p.Words, want) {
			t.Errorf("words of %q: %q, not %q", text, p.Words, want)
		}
	}
	for name := range names() {
		if p := parsed(t, " "+name+" "); !slices.Equal(p.Words, []string{name}) {
			t.Errorf("words of %q: %q", name, p.Words)
		}
	}
}

func parsesNot(t *testing.T, text string, want api.Errno, place int) {
	t.Helper()
	p, e, at := Parse(text)
	equal(t, "error of "+text, e, want)
	equal(t, "place in "+text, at, place)
	equal(t, "words of "+text, len(p.Words), 0)
}

// noWords are near to what is a word.
func noWords() []string {
	return []string{
		"ad", "addd", "Add", "ADD", "add\n", "\tadd", "add\x00", "add\u00a0", "add,", "+", "-", "*", "/", "x", "", "\x00", "\xff", "\u00e4",
		"1 2", " 1", "1 ", " ", "add sub", "+1", "--1", "01", "00", "1.5", "1e3", "1000000000000000", "-1000000000000000", "Inf", "+inf", "NaN", "-nan", "-state",
		"x3fe000000000000", "x3fe00000000000000", "x3FE0000000000000", "bytes", "int", "pop", "push", "over", "abs", "Fail", "failed", "true", "type", "id", "time", "data", "stat", "states",
	}
}

func TestParseOfNoWord(t *testing.T) {
	for _, word := range noWords() {
		if strings.Contains(word, " ") || word == "" {
			continue
		}
		parsesNot(t, word, api.ErrForm, 0)
		parsesNot(t, "1 "+word, api.ErrForm, 1)
		parsesNot(t, "  1   state  "+word+" add", api.ErrForm, 2)
		parsesNot(t, "1 "+word+" "+word, api.ErrForm, 1)
	}
}

func TestOnlyBlanksPart(t *testing.T) {
	for c := range 256 {
		text := "1" + string([]byte{byte(c)}) + "state"
		if _, e, at := Parse(text); e == api.OK != (c == ' ') || at != 0 {
			t.Errorf("Parse of %q: %d, %d", text, e, at)
		}
	}
	for _, text := range []string{"1\u00a0state", "1\u3000state", "1\xc0\xa0state", "1\r\nstate"} {
		parsesNot(t, text, api.ErrForm, 0)
	}
}

func TestParseOfTooMany(t *testing.T) {
	for _, many := range []int{0, 1, 63, api.MaxWords} {
		equal(t, "words", len(parsed(t, strings.Repeat(" 1 ", many)).Words), many)
	}
	for _, many := range []int{api.MaxWords + 1, api.MaxWords + 2, 1000, 1 << 20} {
		parsesNot(t, strings.Repeat("1 ", many), api.ErrLong, api.MaxWords)
		parsesNot(t, strings.Repeat(" what", many), api.ErrLong, api.MaxWords)
	}
	parsesNot(t, strings.Repeat("1 ", api.MaxWords)+"what", api.ErrLong, api.MaxWords)
	parsesNot(t, strings.Repeat("1 ", api.MaxWords-1)+"what", api.ErrForm, api.MaxWords-1)
	blanks := strings.Repeat(" ", 1000)
	equal(t, "words among many blanks", len(parsed(t, blanks+strings.Repeat("1"+blanks, api.MaxWords)).Words), api.MaxWords)
}

func checks(t *testing.T, p Prog, want api.Errno, place int) {
	t.Helper()
	e, at := p.Check()
	equal(t, "error of "+p.Text(), e, want)
	equal(t, "place in "+p.Text(), at, place)
}

func TestCheck(t *testing.T) {
	checks(t, Prog{}, api.OK, 0)
	checks(t, words([]string{}...), api.OK, 0)
	for name := range names() {
		checks(t, words(name), api.OK, 0)
		checks(t, words("1", name, "drop"), api.OK, 0)
	}
	for _, f := range rising() {
		checks(t, words(w(f)), api.OK, 0)
	}
	for _, word := range noWords() {
		checks(t, words(word), api.ErrForm, 0)
		checks(t, words("add", word), api.ErrForm, 1)
		checks(t, words("add", "1", word, "fail", word), api.ErrForm, 2)
	}
	checks(t, words(slices.Repeat([]string{"1"}, api.MaxWords)...), api.OK, 0)
	checks(t, words(slices.Repeat([]string{"1"}, api.MaxWords+1)...), api.ErrLong, api.MaxWords)
	checks(t, words(slices.Repeat([]string{"what"}, api.MaxWords)...), api.ErrForm, 0)
	checks(t, words(slices.Repeat([]string{"what"}, api.MaxWords+1)...), api.ErrLong, api.MaxWords)
	checks(t, words(slices.Repeat([]string{""}, 5000)...), api.ErrLong, api.MaxWords)
}

func TestText(t *testing.T) {
	for _, l := range [][]string{nil, {}, {"1"}, {"1", "2"}, {"state", "value", "add"}, {"no", "such word", "", "x"}, {""}, {"", ""}} {
		equal(t, "Text", words(l...).Text(), strings.Join(l, " "))
	}
	equal(t, "Text of a parsed one", parsed(t, "  1   state add ").Text(), "1 state add")
	long := slices.Repeat([]string{"1"}, 1000)
	equal(t, "Text of one that is too long", words(long...).Text(), strings.Repeat("1 ", 999)+"1")
}

func TestProgramsAreLeft(t *testing.T) {
	p, was := parsed(t, "state value add"), []string{"state", "value", "add"}
	twin := parsed(t, "state value add")
	p.Check()
	p.Run(anEnv())
	p.Fold(1, api.Stored{}, api.Stored{})
	_ = p.Text()
	if !slices.Equal(p.Words, was) {
		t.Errorf("words: %q", p.Words)
	}
	p.Words[0] = "what"
	if !slices.Equal(twin.Words, was) {
		t.Errorf("words of a twin: %q", twin.Words)
	}
}

// P503

func TestRunOfNone(t *testing.T) {
	for _, word := range noWords() {
		faults(t, words(word), anEnv(), none)
		faults(t, words("1", word), anEnv(), none)
		faults(t, words("fail", "drop", word), anEnv(), none)
	}
	faults(t, words(slices.Repeat([]string{"fail"}, api.MaxWords+1)...), anEnv(), none)
	faults(t, words(append([]string{"1"}, slices.Repeat([]string{"neg"}, api.MaxWords)...)...), anEnv(), none)
	leaves(t, "1"+strings.Repeat(" neg", api.MaxWords-1), anEnv(), -1)
}

func TestTooFew(t *testing.T) {
	for name, count := range names() {
		for have := range count[0] {
			faults(t, words(append(slices.Repeat([]string{"1"}, have), name)...), anEnv(), missing)
			faults(t, words(append(slices.Repeat([]string{"1"}, have), name, "fail")...), anEnv(), missing)
			faults(t, words(append([]string{"1", "drop"}, append(slices.Repeat([]string{"1"}, have), name, "1")...)...), anEnv(), missing)
		}
	}
}

func TestNoPlaceOfAByte(t *testing.T) {
	below := math.Nextafter(3, 0)
	for _, f := range append(oddNaNs(), 3, 4, -1, -3, 0.5, -0.5, 1.5, below, math.SmallestNonzeroFloat64, -math.SmallestNonzeroFloat64, 1<<31, 1<<32, 1<<53, 1<<63, 1<<64, -1<<63, 0x1p64+0x1p12, 1e300, -1e300, math.MaxFloat64, math.Inf(1), math.Inf(-1), theNaN()) {
		faults(t, words("state", "byte"), Env{State: f, Event: api.Event{Data: "abc"}}, missing)
	}
	for _, word := range []string{"0", "-0", "1", "-1", "nan"} {
		faults(t, words(word, "byte"), Env{}, missing)
	}
	faults(t, words("len", "byte"), anEnv(), missing)
	faults(t, words("256", "byte"), Env{Event: api.Event{Data: everyByte()}}, missing)
}

func TestAnotherCount(t *testing.T) {
	for _, text := range []string{"", "   ", "1 drop", "1 2", "1 2 3", "1 dup", "1 2 swap", "1 2 3 add", "state value", "nan nan", strings.Repeat("1 ", api.MaxWords), "1" + strings.Repeat(" dup", api.MaxWords-1)} {
		faults(t, parsed(t, text), anEnv(), notOne)
	}
	faults(t, Prog{}, Env{}, notOne)
}

func TestTheFirstFaultIsTold(t *testing.T) {
	faults(t, words("drop", "fail"), anEnv(), missing)
	faults(t, words("fail", "drop"), anEnv(), failed)
	faults(t, words("nan", "byte", "fail"), anEnv(), missing)
	faults(t, words("1", "2", "fail"), anEnv(), failed)
	faults(t, words("1", "2", "3", "byte"), anEnv(), missing)
}

func TestNoughtsAreNoFaults(t *testing.T) {
	for _, text := range []string{"0", "-0", "1 0 div", "0 0 div", "nan", "-inf"} {
		if _, came := parsed(t, text).Run(Env{}); came != fine {
			t.Errorf("Fault of %s: %v", text, came)
		}
	}
}

func TestRunAgain(t *testing.T) {
	p := parsed(t, "state 1 add 0 byte drop")
	for range 3 {
		leaves(t, p.Text(), anEnv(), 3)
		faults(t, p, Env{State: 5}, missing)
	}
}

// P504

func stored(value float64, data string, version int) api.Stored {
	return api.Stored{Event: api.Event{Id: 1, Type: "made", Data: data, Value: value}, Stream: "a-1", Version: version, Position: 1000 + version, Time: 2000}
}

func folds(t *testing.T, text string, state float64, l []api.Stored, want float64, many int) {
	t.Helper()
	f, n := words(strings.Split(text, " ")...).Fold(state, l...)
	alike(t, "state of "+text, f, want)
	equal(t, "faults of "+text, n, many)
}

func TestFold(t *testing.T) {
	l := []api.Stored{stored(2, "a", 3), stored(50, "", 4), stored(4, "bc", 9)}
	folds(t, "state value add", 1, l, 57, 0)
	folds(t, "value state sub", 1, l, 4-(50-(2-1.0)), 0)
	folds(t, "value", 1, l, 4, 0)
	folds(t, "version", 1, l, 9, 0)
	folds(t, "state version add", 0, l, 16, 0)
	folds(t, "state 10 mul len add", 0, l, 102, 0)
	folds(t, "state 256 mul 0 byte add", 0, l, 'a'*256+'b', 1)
	folds(t, "state", 5, l, 5, 0)
}

func TestFoldWithFaults(t *testing.T) {
	l := []api.Stored{stored(2, "a", 0), stored(50, "", 1), stored(4, "b", 2)}
	folds(t, "state value add 0 byte drop", 1, l, 7, 1)
	folds(t, "state value add 0 byte drop", 1, l[1:2], 1, 1)
	for _, text := range []string{"fail", "state value add fail", "state value", "drop", "what", "7 what"} {
		folds(t, text, 5, l, 5, 3)
	}
	folds(t, strings.Repeat("1 ", api.MaxWords)+"1", 5, l, 5, 3)
}

func TestFoldOfNone(t *testing.T) {
	for _, text := range []string{"state value add", "fail", "what"} {
		folds(t, text, 9, nil, 9, 0)
		folds(t, text, 9, []api.Stored{}, 9, 0)
	}
	for _, f := range rising() {
		folds(t, "state value add", f, nil, f, 0)
		folds(t, "fail", f, []api.Stored{{}, {}}, f, 2)
	}
	for _, f := range oddNaNs() {
		folds(t, "state", f, nil, theNaN(), 0)
		folds(t, "fail", f, []api.Stored{{}}, theNaN(), 1)
	}
}

func TestFoldOfNoughts(t *testing.T) {
	none := stored(minusZero(), "", 0)
	folds(t, "state value add", minusZero(), []api.Stored{none, none}, minusZero(), 0)
	folds(t, "state value add", 0, []api.Stored{none, none}, 0, 0)
	folds(t, "state value mul", -1, []api.Stored{none}, 0, 0)
	folds(t, "state value div", 1, []api.Stored{none, none}, math.Inf(1), 0)
	folds(t, "state value div", 0, []api.Stored{none}, theNaN(), 0)
}

// What is folded in parts comes to what is folded at once.
func TestFoldInParts(t *testing.T) {
	p := words("state", "3", "mul", "0", "byte", "add", "value", "add")
	var l []api.Stored
	for k := range 40 {
		l = append(l, stored(float64(k)/7, strings.Repeat("z", k%3), k))
	}
	whole, many := p.Fold(0.5, l...)
	for cut := range l {
		state, ahead := p.Fold(0.5, l[:cut]...)
		state, behind := p.Fold(state, l[cut:]...)
		alike(t, "state", state, whole)
		equal(t, "faults", ahead+behind, many)
	}
}

func TestEventsAreLeft(t *testing.T) {
	l := []api.Stored{stored(2, "a", 0), stored(50, "", 1), stored(oddNaNs()[0], "b", 2)}
	was := slices.Clone(l)
	words("state", "value", "add").Fold(1, l...)
	for k := range l {
		alike(t, "value", l[k].Value, was[k].Value)
		l[k].Value, was[k].Value = 0, 0
		equal(t, "event", l[k], was[k])
	}
}

// P505

// expected tells the Fault of words by the counts of numbers alone; false, where a byte's place decides.
func expected(l []string) (guard.Fault, bool) {
	have, all := 0, names()
	for _, word := range l {
		count, ok := all[word]
		switch {
		case !ok:
			have++
			continue
		case word == "fail":
			return failed, true
		case have < count[0]:
			return missing, true
		case word == "byte":
			return fine, false
		}
		have += count[1] - count[0]
	}
	if have != 1 {
		return notOne, true
	}
	return fine, true
}

// eachOf goes through all programs of so many words.
func eachOf(many int, vocabulary []string, each func(p Prog)) {
	var l []string
	var deeper func()
	deeper = func() {
		if len(l) == many {
			each(words(l...))
			return
		}
		for _, word := range vocabulary {
			l = append(l, word)
			deeper()
			l = l[:len(l)-1]
		}
	}
	deeper()
}

func vocabulary() []string {
	l := []string{"0", "2", "nan"}
	for name := range names() {
		l = append(l, name)
	}
	slices.Sort(l)
	return l
}

func runsToTheEnd(t *testing.T, p Prog) {
	t.Helper()
	f, came := p.Run(anEnv())
	want, sure := expected(p.Words)
	if sure && came != want {
		t.Fatalf("Fault of %s: %v, not %v", p.Text(), came, want)
	}
	if came != fine && came != missing && came != failed && came != notOne {
		t.Fatalf("Fault of %s: %v", p.Text(), came)
	}
	if came != fine && math.Float64bits(f) != 0 || f != f && math.Float64bits(f) != oneNaN {
		t.Fatalf("number of %s: %x", p.Text(), math.Float64bits(f))
	}
}

func TestEachRunsToTheEnd(t *testing.T) {
	for many := range 4 {
		eachOf(many, vocabulary(), func(p Prog) { runsToTheEnd(t, p) })
	}
	l := vocabulary()
	for k := range uint64(3000) {
		var p Prog
		for j := range k % (api.MaxWords + 1) {
			p.Words = append(p.Words, l[(k*0x9e3779b97f4a7c15+j*j*0xc2b2ae3d27d4eb4f)>>40%uint64(len(l))])
		}
		runsToTheEnd(t, p)
	}
}

func TestThereAndBack(t *testing.T) {
	for many := range 4 {
		eachOf(many, vocabulary(), func(p Prog) {
			if q, e, at := Parse(p.Text()); e != api.OK || at != 0 || !slices.Equal(q.Words, p.Words) {
				t.Fatalf("Parse of %q: %q, %d, %d", p.Text(), q.Words, e, at)
			}
		})
	}
	for _, f := range rising() {
		p := words(slices.Repeat([]string{w(f)}, api.MaxWords)...)
		if q := parsed(t, p.Text()); !slices.Equal(q.Words, p.Words) {
			t.Errorf("Parse of %q: %q", p.Text(), q.Words)
		}
	}
}
