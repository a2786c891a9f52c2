package real

import (
	"math"
	"slices"
	"strings"
	"testing"

	"chronicle/api"
)

const oneNaN = 0x7ff8000000000000

func equal[T comparable](t *testing.T, what string, got, want T) {
	t.Helper()
	if got != want {
		t.Errorf("%s: %#v, not %#v", what, got, want)
	}
}

// alike holds numbers against each other by their bits, as no call of the package does it.
func alike(t *testing.T, what string, got, want float64) {
	t.Helper()
	if g, w := math.Float64bits(got), math.Float64bits(want); g != w {
		t.Errorf("%s: bits %x, not %x", what, g, w)
	}
}

func theNaN() float64 { return math.Float64frombits(oneNaN) }

func minusZero() float64 { return math.Copysign(0, -1) }

// nanBits are those of several NaNs: quiet and signalling ones, of both signs.
func nanBits() []uint64 {
	return []uint64{oneNaN, 0x7ff8000000000001, 0x7ff0000000000001, 0x7fffffffffffffff, 0xfff8000000000000, 0xfff0000000000001, math.MaxUint64}
}

// rising holds numbers of all classes in the one order.
func rising() []float64 {
	const normal = 0x1p-1022 // the least number that has all its bits
	above := []float64{math.SmallestNonzeroFloat64, 2 * math.SmallestNonzeroFloat64, math.Nextafter(normal, 0), normal, 1e-300, 0.1, math.Nextafter(1, 0), 1, math.Nextafter(1, 2), 1.5, 2, 12, 999999999999999, 1e15, 1 << 53, 1 << 63, 1e300, math.Nextafter(math.MaxFloat64, 0), math.MaxFloat64, math.Inf(1)}
	var l []float64
	for _, f := range slices.Backward(above) {
		l = append(l, -f)
	}
	l = append(l, minusZero(), 0)
	l = append(l, above...)
	return append(l, theNaN())
}

// P301

func TestCanon(t *testing.T) {
	for _, f := range rising() {
		alike(t, "Canon of a number", Canon(f), f)
	}
	for _, b := range nanBits() {
		alike(t, "Canon of a NaN", Canon(math.Float64frombits(b)), theNaN())
	}
	alike(t, "Canon of the language's NaN", Canon(math.NaN()), theNaN())
	inf := math.Inf(1)
	alike(t, "Canon of a NaN that was reckoned", Canon(inf-inf), theNaN())
}

func TestBits(t *testing.T) {
	for f, want := range map[float64]uint64{
		0:                           0,
		1:                           0x3ff0000000000000,
		-1:                          0xbff0000000000000,
		0.5:                         0x3fe0000000000000,
		math.SmallestNonzeroFloat64: 1,
		math.MaxFloat64:             0x7fefffffffffffff,
		math.Inf(1):                 0x7ff0000000000000,
		math.Inf(-1):                0xfff0000000000000,
	} {
		equal(t, "Bits", Bits(f), want)
	}
	equal(t, "Bits of -0", Bits(minusZero()), 1<<63)
	for _, b := range nanBits() {
		equal(t, "Bits of a NaN", Bits(math.Float64frombits(b)), oneNaN)
	}
}

func TestOf(t *testing.T) {
	for _, f := range rising() {
		alike(t, "Of", Of(math.Float64bits(f)), f)
		alike(t, "Of Bits", Of(Bits(f)), f)
	}
	for _, b := range nanBits() {
		alike(t, "Of a NaN's", Of(b), theNaN())
	}
	alike(t, "Of the bits below those of a NaN", Of(0x7ff0000000000000), math.Inf(1))
	alike(t, "Of the bits below those of a NaN, below nought", Of(0xfff0000000000000), math.Inf(-1))
}

func TestClassNumbers(t *testing.T) {
	for k, c := range []int{NaN, MinusInf, Minus, MinusZero, Zero, Plus, PlusInf} {
		equal(t, "class", c, k)
	}
}

func TestClass(t *testing.T) {
	for _, f := range rising() {
		want := Plus
		switch {
		case f != f:
			want = NaN
		case f == 0 && 1/f < 0:
			want = MinusZero
		case f == 0:
			want = Zero
		case f < -math.MaxFloat64:
			want = MinusInf
		case f > math.MaxFloat64:
			want = PlusInf
		case f < 0:
			want = Minus
		}
		equal(t, "Class of "+Text(f), Class(f), want)
	}
	for _, b := range nanBits() {
		equal(t, "Class of a NaN", Class(math.Float64frombits(b)), NaN)
	}
}

func TestSame(t *testing.T) {
	l := rising()
	for i, a := range l {
		for j, b := range l {
			equal(t, "Same of "+Text(a)+", "+Text(b), Same(a, b), i == j)
		}
	}
	equal(t, "noughts", Same(0, minusZero()) || Same(minusZero(), 0), false)
	for _, a := range nanBits() {
		for _, b := range nanBits() {
			equal(t, "NaNs", Same(math.Float64frombits(a), math.Float64frombits(b)), true)
		}
	}
}

// P302

func TestLess(t *testing.T) {
	l := rising()
	for i, a := range l {
		for j, b := range l {
			equal(t, "Less of "+Text(a)+", "+Text(b), Less(a, b), i < j)
		}
	}
}

func TestLessOfNaNs(t *testing.T) {
	for _, b := range nanBits() {
		f := math.Float64frombits(b)
		for _, g := range rising() {
			equal(t, "a NaN ahead of "+Text(g), Less(f, g), false)
			equal(t, Text(g)+" ahead of a NaN", Less(g, f), g == g)
		}
	}
}

func TestLeastAndMostOfNone(t *testing.T) {
	alike(t, "Least", Least(), theNaN())
	alike(t, "Most", Most(), theNaN())
	alike(t, "Least of a nil list", Least([]float64(nil)...), theNaN())
	alike(t, "Most of an empty list", Most([]float64{}...), theNaN())
}

func TestLeastAndMostOfOne(t *testing.T) {
	for _, f := range rising() {
		alike(t, "Least", Least(f), f)
		alike(t, "Most", Most(f), f)
	}
	for _, b := range nanBits() {
		alike(t, "Least of a NaN", Least(math.Float64frombits(b)), theNaN())
		alike(t, "Most of a NaN", Most(math.Float64frombits(b)), theNaN())
	}
}

func TestLeastAndMostOfTwo(t *testing.T) {
	l := rising()
	for i, a := range l {
		for j, b := range l {
			alike(t, "Least of "+Text(a)+", "+Text(b), Least(a, b), l[min(i, j)])
			alike(t, "Most of "+Text(a)+", "+Text(b), Most(a, b), l[max(i, j)])
		}
	}
}

func TestLeastAndMostOfMany(t *testing.T) {
	l := rising()
	for k := range l {
		turned := append(slices.Clone(l[k:]), l[:k]...)
		alike(t, "Least", Least(turned...), math.Inf(-1))
		alike(t, "Most", Most(turned...), theNaN())
	}
	odd := math.Float64frombits(math.MaxUint64)
	alike(t, "Least of noughts and NaNs", Least(odd, 3, 0, minusZero(), 0, odd), minusZero())
	alike(t, "Most of noughts", Most(-1, minusZero(), 0, minusZero()), 0)
	alike(t, "Most with a NaN", Most(3, odd, math.Inf(1)), theNaN())
	alike(t, "Least of NaNs", Least(odd, odd), theNaN())
}

func TestSum(t *testing.T) {
	inf := math.Inf(1)
	for _, x := range []struct {
		what string
		l    []float64
		want float64
	}{
		{"none", nil, 0},
		{"an empty list", []float64{}, 0},
		{"a nought", []float64{0}, 0},
		{"a nought below nought", []float64{minusZero()}, minusZero()},
		{"two of them", []float64{minusZero(), minusZero()}, minusZero()},
		{"both noughts", []float64{minusZero(), 0}, 0},
		{"both noughts, turned", []float64{0, minusZero()}, 0},
		{"what adds up to nought", []float64{-1, 1}, 0},
		{"plain ones", []float64{1, 2, 3.5, -10}, -3.5},
		{"rounded", []float64{0.1, 0.2}, math.Float64frombits(0x3fd3333333333334)},
		{"from the left", []float64{1e16, 1, -1e16}, 0},
		{"from the left, turned", []float64{1e16, -1e16, 1}, 1},
		{"beyond the greatest", []float64{1e308, 1e308, -1e308}, inf},
		{"beyond the least", []float64{-1e308, -1e308, 1e308}, -inf},
		{"not beyond", []float64{1e308, -1e308, 1e308}, 1e308},
		{"the smallest", []float64{math.SmallestNonzeroFloat64, math.SmallestNonzeroFloat64}, 2 * math.SmallestNonzeroFloat64},
		{"infinities", []float64{inf, inf}, inf},
		{"both infinities", []float64{inf, -inf}, theNaN()},
		{"both infinities, turned", []float64{-inf, inf, 1}, theNaN()},
		{"a NaN", []float64{math.Float64frombits(math.MaxUint64)}, theNaN()},
		{"a signalling NaN", []float64{math.Float64frombits(0x7ff0000000000001)}, theNaN()},
		{"a NaN among others", []float64{1, math.Float64frombits(0xfff0000000000001), inf}, theNaN()},
	} {
		alike(t, "Sum of "+x.what, Sum(x.l...), x.want)
	}
}

func TestListsAreLeft(t *testing.T) {
	l := []float64{3, math.Float64frombits(math.MaxUint64), minusZero(), -7, 0, 1e300, 99}
	was := slices.Clone(l)
	alike(t, "Least", Least(l[2:5]...), -7)
	alike(t, "Most", Most(l[2:5]...), 0)
	alike(t, "Sum", Sum(l[2:5]...), -7)
	Least(l...)
	Most(l...)
	Sum(l...)
	for k := range l {
		alike(t, "the list", l[k], was[k])
	}
}

// P303

func TestTextOfWords(t *testing.T) {
	for _, b := range nanBits() {
		equal(t, "Text of a NaN", Text(math.Float64frombits(b)), "nan")
	}
	equal(t, "Text", Text(math.Inf(1)), "inf")
	equal(t, "Text", Text(math.Inf(-1)), "-inf")
	equal(t, "Text", Text(0), "0")
	equal(t, "Text", Text(minusZero()), "-0")
}

func TestTextOfDigits(t *testing.T) {
	for f, want := range map[float64]string{
		1:                "1",
		-1:               "-1",
		9:                "9",
		10:               "10",
		-120:             "-120",
		4294967296:       "4294967296",
		100000000000000:  "100000000000000",
		-100000000000000: "-100000000000000",
		999999999999999:  "999999999999999",
		-999999999999999: "-999999999999999",
	} {
		equal(t, "Text", Text(f), want)
	}
}

func TestTextOfBits(t *testing.T) {
	for f, want := range map[float64]string{
		0.5:                                "x3fe0000000000000",
		-0.5:                               "xbfe0000000000000",
		1.5:                                "x3ff8000000000000",
		0.1:                                "x3fb999999999999a",
		1e15:                               "x430c6bf526340000",
		-1e15:                              "xc30c6bf526340000",
		999999999999998.875:                "x430c6bf52633fff7",
		1 << 63:                            "x43e0000000000000",
		-1 << 63:                           "xc3e0000000000000",
		1e300:                              "x7e37e43c8800759c",
		math.MaxFloat64:                    "x7fefffffffffffff",
		-math.MaxFloat64:                   "xffefffffffffffff",
		math.SmallestNonzeroFloat64:        "x0000000000000001",
		-math.SmallestNonzeroFloat64:       "x8000000000000001",
		math.Float64frombits(0xabcdef):     "x0000000000abcdef",
		math.Float64frombits(0x1234567890): "x0000001234567890",
	} {
		equal(t, "Text", Text(f), want)
	}
}

func parses(t *testing.T, s string, want float64) {
	t.Helper()
	f, e := Parse(s)
	alike(t, "Parse of "+s, f, want)
	equal(t, "error of "+s, e, api.OK)
}

func TestParseWords(t *testing.T) {
	parses(t, "nan", theNaN())
	parses(t, "inf", math.Inf(1))
	parses(t, "-inf", math.Inf(-1))
	parses(t, "0", 0)
	parses(t, "-0", minusZero())
}

func TestParseDigits(t *testing.T) {
	for s, want := range map[string]float64{
		"1":                1,
		"-1":               -1,
		"10":               10,
		"-120":             -120,
		"123456789012345":  123456789012345,
		"100000000000000":  1e14,
		"999999999999999":  999999999999999,
		"-999999999999999": -999999999999999,
	} {
		parses(t, s, want)
	}
}

func TestParseBits(t *testing.T) {
	for s, want := range map[string]float64{
		"x0000000000000000": 0,
		"x8000000000000000": minusZero(),
		"x3ff0000000000000": 1,
		"x3fe0000000000000": 0.5,
		"x0000000000000001": math.SmallestNonzeroFloat64,
		"xffefffffffffffff": -math.MaxFloat64,
		"x7ff0000000000000": math.Inf(1),
		"xfff0000000000000": math.Inf(-1),
		"x7ff8000000000000": theNaN(),
		"x7ff0000000000001": theNaN(),
		"xfff8000000000001": theNaN(),
		"xffffffffffffffff": theNaN(),
		"x0123456789abcdef": math.Float64frombits(0x0123456789abcdef),
		"xfedcba9876543210": math.Float64frombits(0xfedcba9876543210),
	} {
		parses(t, s, want)
	}
}

func parsesNot(t *testing.T, s string) {
	t.Helper()
	f, e := Parse(s)
	alike(t, "Parse of "+s, f, 0)
	equal(t, "error of "+s, e, api.ErrForm)
}

func TestParseOfNone(t *testing.T) {
	for _, s := range []string{
		"", " ", "-", "+", "x", "-x", "\x00",
		"NaN", "NAN", "-nan", "+nan", "nan ", " nan", "nans", "na", "Inf", "+inf", "--inf", "infinity", "inf\n", "minf",
		"+0", "--0", "00", "-00", "0x0", "0 ", " 0", "01", "-01", "000000000000001", "+1", "--1", "1-", "1.5", "1.", ".5", "1e3", "1_0", " 1", "1 ", "1\n", "\u0661",
		"1000000000000000", "-1000000000000000", "9999999999999999", "999999999999999999", "-999999999999999999", "1000000000000000000", "99999999999999999999999",
	} {
		parsesNot(t, s)
	}
}

func TestParseOfNoBits(t *testing.T) {
	for _, s := range []string{
		"3fe0000000000000", "X3fe0000000000000", "-x3fe0000000000000", "0x3fe0000000000000", "xx3fe0000000000000", " x3fe0000000000000", "x3fe0000000000000 ",
		"x3fe000000000000", "x3fe00000000000000", "x3FE0000000000000", "x3fE0000000000000", "x-fe0000000000000", "x+fe0000000000000", "x3fe000000000000g", "x/fe0000000000000", "x:fe0000000000000", "x`fe0000000000000", "x3fe0_00000000000", "x3fe00000000000\u00e4", "x               0", "x0x00000000000000",
	} {
		parsesNot(t, s)
	}
}

// Each byte at each place of a text that is one: only a digit of those that are named is taken.
func TestParseEachByteOfBits(t *testing.T) {
	const whole = "x3fe123456789abcd"
	for at := 1; at < len(whole); at++ {
		for c := range 256 {
			s := whole[:at] + string([]byte{byte(c)}) + whole[at+1:]
			_, e := Parse(s)
			equal(t, "error of "+s, e == api.OK, strings.ContainsRune("0123456789abcdef", rune(c)))
		}
	}
}

// P304

// spread goes through numbers of all kinds, by their bits.
func spread(each func(f float64)) {
	for _, f := range rising() {
		each(f)
	}
	for _, b := range nanBits() {
		each(math.Float64frombits(b))
	}
	for k := range uint64(200) {
		each(math.Float64frombits(k * 0x9e3779b97f4a7c15))
		each(float64(int64(k*0x9e3779b97f4a7c15) >> (k % 64)))
	}
}

func TestThereAndBack(t *testing.T) {
	spread(func(f float64) {
		g, e := Parse(Text(f))
		alike(t, "Parse of Text", g, Canon(f))
		equal(t, "Same", Same(f, g), true)
		equal(t, "error", e, api.OK)
		equal(t, "Text of Parse", Text(g), Text(f))
	})
}

func TestTheOrderIsTotal(t *testing.T) {
	var l []float64
	spread(func(f float64) { l = append(l, f) })
	for _, a := range l {
		for _, b := range l {
			held := 0
			for _, is := range []bool{Less(a, b), Less(b, a), Same(a, b)} {
				if is {
					held++
				}
			}
			if held != 1 {
				t.Fatalf("%s and %s: %d of Less, Less turned and Same hold", Text(a), Text(b), held)
			}
		}
	}
}

func TestTheOrderHoldsAlong(t *testing.T) {
	var l []float64
	spread(func(f float64) { l = append(l, f) })
	slices.SortFunc(l, func(a, b float64) int {
		if Less(a, b) {
			return -1
		}
		if Less(b, a) {
			return 1
		}
		return 0
	})
	for i, a := range l {
		for _, b := range l[i:] {
			if Less(b, a) {
				t.Fatalf("%s stands behind %s, and is Less", Text(b), Text(a))
			}
		}
	}
	alike(t, "Least", Least(l...), l[0])
	alike(t, "Most", Most(l...), Canon(l[len(l)-1]))
}
