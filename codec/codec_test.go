package codec

import (
	"math"
	"strings"
	"testing"

	"chronicle/api"
)

const otherNaN = 0xfff0000000000001

func equal[T comparable](t *testing.T, what string, got, want T) {
	t.Helper()
	if got != want {
		t.Errorf("%s: %#v, not %#v", what, got, want)
	}
}

// lays says what an Out must tell behind what puts does to a zero one.
func lays(t *testing.T, what string, puts func(o *Out), length int, want string, e api.Errno) {
	t.Helper()
	var o Out
	puts(&o)
	equal(t, what+": Len", o.Len(), length)
	for range 2 {
		b, err := o.Done()
		equal(t, what+": Done", b, want)
		equal(t, what+": error", err, e)
	}
}

func put(puts func(o *Out)) string {
	var o Out
	puts(&o)
	b, _ := o.Done()
	return b
}

func TestOutNumbers(t *testing.T) {
	lays(t, "nothing", func(o *Out) {}, 0, "", api.OK)
	lays(t, "example", func(o *Out) { o.U32(258).Text("ab") }, 10, "\x00\x00\x01\x02\x00\x00\x00\x02ab", api.OK)
	lays(t, "U8", func(o *Out) { o.U8(0).U8(1).U8(255) }, 3, "\x00\x01\xff", api.OK)
	lays(t, "U32", func(o *Out) { o.U32(0).U32(0x01020304).U32(1<<32 - 1) }, 12, "\x00\x00\x00\x00\x01\x02\x03\x04\xff\xff\xff\xff", api.OK)
	lays(t, "U64", func(o *Out) { o.U64(0x0102030405060708).U64(math.MaxUint64) }, 16, "\x01\x02\x03\x04\x05\x06\x07\x08\xff\xff\xff\xff\xff\xff\xff\xff", api.OK)
	lays(t, "I64", func(o *Out) { o.I64(-2).I64(math.MaxInt).I64(math.MinInt) }, 24, "\xff\xff\xff\xff\xff\xff\xff\xfe\x7f\xff\xff\xff\xff\xff\xff\xff\x80\x00\x00\x00\x00\x00\x00\x00", api.OK)
}

func TestOutRefusesNumbers(t *testing.T) {
	for _, v := range []int{-1, 256, 1 << 32, math.MinInt, math.MaxInt} {
		lays(t, "U8("+Digits(v)+")", func(o *Out) { o.U8(7).U8(v) }, 1, "", api.ErrArg)
	}
	for _, v := range []int{-1, 1 << 32, math.MinInt, math.MaxInt} {
		lays(t, "U32("+Digits(v)+")", func(o *Out) { o.U32(7).U32(v) }, 4, "", api.ErrArg)
	}
}

func TestOutF64(t *testing.T) {
	for _, x := range []struct {
		f    float64
		want string
	}{
		{0, "\x00\x00\x00\x00\x00\x00\x00\x00"},
		{math.Copysign(0, -1), "\x80\x00\x00\x00\x00\x00\x00\x00"},
		{0.5, "\x3f\xe0\x00\x00\x00\x00\x00\x00"},
		{math.Inf(1), "\x7f\xf0\x00\x00\x00\x00\x00\x00"},
		{math.Inf(-1), "\xff\xf0\x00\x00\x00\x00\x00\x00"},
		{math.SmallestNonzeroFloat64, "\x00\x00\x00\x00\x00\x00\x00\x01"},
		{math.MaxFloat64, "\x7f\xef\xff\xff\xff\xff\xff\xff"},
		{math.NaN(), "\x7f\xf8\x00\x00\x00\x00\x00\x00"},
		{math.Float64frombits(otherNaN), "\x7f\xf8\x00\x00\x00\x00\x00\x00"},
		{math.Float64frombits(math.MaxUint64), "\x7f\xf8\x00\x00\x00\x00\x00\x00"},
	} {
		lays(t, "F64", func(o *Out) { o.F64(x.f) }, 8, x.want, api.OK)
	}
}

func TestOutText(t *testing.T) {
	long := strings.Repeat("x", 65536)
	lays(t, "none", func(o *Out) { o.Text("") }, 4, "\x00\x00\x00\x00", api.OK)
	lays(t, "any bytes", func(o *Out) { o.Text("\x00\xff\n") }, 7, "\x00\x00\x00\x03\x00\xff\n", api.OK)
	lays(t, "longest", func(o *Out) { o.Text(long) }, 65540, "\x00\x01\x00\x00"+long, api.OK)
	lays(t, "too long", func(o *Out) { o.U8(1).Text(long + "x") }, 1, "", api.ErrLong)
}

func TestOutFirstErrorStays(t *testing.T) {
	long := strings.Repeat("x", 65537)
	more := func(o *Out) *Out {
		return o.U8(1).U32(1).U64(1).I64(1).F64(1).Text("x").U8(-1).U32(-1).Text(long)
	}
	lays(t, "ErrArg", func(o *Out) { more(o.U8(1).U8(256)) }, 1, "", api.ErrArg)
	lays(t, "ErrLong", func(o *Out) { more(o.U8(1).Text(long)) }, 1, "", api.ErrLong)
}

func TestOutAnswersItself(t *testing.T) {
	var o Out
	for k, p := range []*Out{o.U8(1), o.U32(1), o.U64(1), o.I64(1), o.F64(1), o.Text("x"), o.Text(strings.Repeat("x", 65537)), o.U8(-1), o.U32(-1), o.U8(1)} {
		equal(t, "itself, at "+Digits(k), p, &o)
	}
}

func TestOutGoesOnBehindDone(t *testing.T) {
	var o Out
	before, _ := o.U8('a').Done()
	after, _ := o.U8('b').Done()
	equal(t, "before", before, "a")
	equal(t, "after", after, "ab")
}

func TestOutCopiesAreApart(t *testing.T) {
	var a Out
	for range 5 { // so that there is room behind the last byte
		a.U8('x')
	}
	b := a
	a.U8('a')
	c := a
	b.U8('b').U8('b')
	a = b
	a.U8(-1)
	b.U8('c')
	for _, x := range []struct {
		o    Out
		want string
		e    api.Errno
	}{{a, "", api.ErrArg}, {b, "xxxxxbbc", api.OK}, {c, "xxxxxa", api.OK}} {
		got, e := x.o.Done()
		equal(t, "bytes", got, x.want)
		equal(t, "error", e, x.e)
	}
}

func TestNilOut(t *testing.T) {
	var o *Out
	for k, p := range []*Out{o.U8(1), o.U8(-1), o.U32(1), o.U32(-1), o.U64(1), o.I64(1), o.F64(1), o.Text("x"), o.Text(strings.Repeat("x", 65537))} {
		equal(t, "nil, at "+Digits(k), p, nil)
	}
	b, e := o.Done()
	equal(t, "Len", o.Len(), 0)
	equal(t, "Done", b, "")
	equal(t, "error", e, api.ErrArg)
}

// rests says how far a reader is.
func rests(t *testing.T, what string, i *In, left int, e api.Errno) {
	t.Helper()
	equal(t, what+": Left", i.Left(), left)
	equal(t, what+": Err", i.Err(), e)
}

// tellsNothing says that a reader reads no more, and what its error is.
func tellsNothing(t *testing.T, what string, i *In, e api.Errno) {
	t.Helper()
	equal(t, what+": U8", i.U8(), 0)
	equal(t, what+": U32", i.U32(), 0)
	equal(t, what+": U64", i.U64(), 0)
	equal(t, what+": I64", i.I64(), 0)
	equal(t, what+": F64", math.Float64bits(i.F64()), 0)
	equal(t, what+": Text", i.Text(9), "")
	equal(t, what+": Text of none", i.Text(-1), "")
	equal(t, what+": End", i.End(), e)
	rests(t, what, i, 0, e)
}

func TestInReads(t *testing.T) {
	i := NewIn("\xff" + "\xff\x01\x02\x03" + "\xff\x01\x02\x03\x04\x05\x06\x07" + "\xff\xff\xff\xff\xff\xff\xff\xfe" + "\xbf\xe0\x00\x00\x00\x00\x00\x00" + "\x00\x00\x00\x02ab" + "rest")
	rests(t, "all", i, 39, api.OK)
	equal(t, "U8", i.U8(), 255)
	rests(t, "U8", i, 38, api.OK)
	equal(t, "U32", i.U32(), 0xff010203)
	rests(t, "U32", i, 34, api.OK)
	equal(t, "U64", i.U64(), 0xff01020304050607)
	rests(t, "U64", i, 26, api.OK)
	equal(t, "I64", i.I64(), -2)
	rests(t, "I64", i, 18, api.OK)
	equal(t, "F64", i.F64(), -0.5)
	rests(t, "F64", i, 10, api.OK)
	equal(t, "Text", i.Text(2), "ab")
	rests(t, "Text", i, 4, api.OK)
	equal(t, "End ahead of the end", i.End(), api.ErrForm)
	tellsNothing(t, "behind End", i, api.ErrForm)
}

func TestInEnd(t *testing.T) {
	i := NewIn("\x01\x02")
	i.U8()
	i.U8()
	equal(t, "End", i.End(), api.OK)
	rests(t, "end", i, 0, api.OK)
	equal(t, "U8 behind the end", i.U8(), 0)
	tellsNothing(t, "behind the end", i, api.ErrShort)
	equal(t, "End of none", NewIn("").End(), api.OK)
}

func TestInF64OfNaN(t *testing.T) {
	for _, b := range []string{"\x7f\xf8\x00\x00\x00\x00\x00\x00", "\xff\xf8\x00\x00\x00\x00\x00\x00", "\x7f\xf0\x00\x00\x00\x00\x00\x01", "\xff\xff\xff\xff\xff\xff\xff\xff"} {
		equal(t, "NaN", math.Float64bits(NewIn(b).F64()), 0x7ff8000000000000)
	}
}

func TestInShort(t *testing.T) {
	for _, x := range []struct {
		what  string
		bytes int
		read  func(i *In) bool
	}{
		{"U8", 1, func(i *In) bool { return i.U8() == 0 }},
		{"U32", 4, func(i *In) bool { return i.U32() == 0 }},
		{"U64", 8, func(i *In) bool { return i.U64() == 0 }},
		{"I64", 8, func(i *In) bool { return i.I64() == 0 }},
		{"F64", 8, func(i *In) bool { return math.Float64bits(i.F64()) == 0 }},
		{"Text", 4, func(i *In) bool { return i.Text(9) == "" }},
	} {
		for n := range x.bytes {
			i := NewIn(strings.Repeat("\xff", n))
			equal(t, x.what+" is nought", x.read(i), true)
			tellsNothing(t, x.what, i, api.ErrShort)
		}
		i := NewIn(strings.Repeat("\x00", x.bytes))
		equal(t, x.what+" is nought", x.read(i), true)
		rests(t, x.what, i, 0, api.OK)
	}
}

func TestInText(t *testing.T) {
	for _, x := range []struct {
		bytes string
		most  int
		want  string
		e     api.Errno
	}{
		{"\x00\x00\x00\x00", 0, "", api.OK},
		{"\x00\x00\x00\x02\x00\xff", 2, "\x00\xff", api.OK},
		{"\x00\x00\x00\x02ab", math.MaxInt, "ab", api.OK},
		{"\x00\x00\x00\x02ab", 1, "", api.ErrLong},
		{"\x00\x00\x00\x02a", 2, "", api.ErrShort},
		{"\x00\x00\x00\x02a", 1, "", api.ErrLong},
		{"\x00\x00\x00\x01", 1, "", api.ErrShort},
		{"\x00\x00\x00", -1, "", api.ErrShort},
		{"\x00\x00\x00\x00", -1, "", api.ErrLong},
		{"\xff\xff\xff\xffab", math.MaxInt, "", api.ErrShort},
		{"\xff\xff\xff\xffab", 65536, "", api.ErrLong},
	} {
		i := NewIn(x.bytes)
		equal(t, "Text", i.Text(x.most), x.want)
		rests(t, "Text", i, 0, x.e)
		if x.e != api.OK {
			tellsNothing(t, "behind Text", i, x.e)
		}
	}
	more := NewIn("\x00\x00\x00\x03abcde")
	equal(t, "Text with more behind it", more.Text(3), "abc")
	rests(t, "Text with more behind it", more, 2, api.OK)
}

func TestInErrorTakesWhatIsLeft(t *testing.T) {
	long := NewIn("\x00\x00\x00\x02abcdefghijkl")
	equal(t, "Text", long.Text(1), "")
	tellsNothing(t, "too long", long, api.ErrLong)
	short := NewIn("\x01\x02\x03")
	equal(t, "U32", short.U32(), 0)
	tellsNothing(t, "too short", short, api.ErrShort)
}

func TestInCopiesAreApart(t *testing.T) {
	a := NewIn("\x01\x02")
	b := *a
	a.U32()
	equal(t, "the copy", b.U8(), 1)
	rests(t, "the copy", &b, 1, api.OK)
	rests(t, "the other one", a, 0, api.ErrShort)
}

func TestZeroAndNilIn(t *testing.T) {
	var zero In
	equal(t, "End of a zero one", zero.End(), api.OK)
	rests(t, "a zero one", &zero, 0, api.OK)
	equal(t, "U8 of a zero one", zero.U8(), 0)
	tellsNothing(t, "a zero one", &zero, api.ErrShort)
	tellsNothing(t, "a nil one", nil, api.ErrArg)
}

func TestDigits(t *testing.T) {
	for v, want := range map[int]string{0: "0", 7: "7", -1: "-1", 120: "120", math.MaxInt: "9223372036854775807", math.MinInt: "-9223372036854775808"} {
		equal(t, "Digits", Digits(v), want)
	}
}

func TestNumber(t *testing.T) {
	for s, want := range map[string]int{"0": 0, "7": 7, "-7": -7, "10": 10, "-120": -120, "999999999999999999": 999999999999999999, "-999999999999999999": -999999999999999999, "100000000000000000": 100000000000000000} {
		v, e := Number(s)
		equal(t, "Number of "+s, v, want)
		equal(t, "error of "+s, e, api.OK)
	}
	for _, s := range []string{"", "-", "--1", "+1", "-0", "00", "01", "-01", "1-", "1x", "x1", "/", ":", " 1", "1 ", "1\n", "1.0", "1_0", "0x1", "1e3", "\u0661", "1\x00", "1000000000000000000", "-1000000000000000000", "0000000000000000001", "9223372036854775807", "99999999999999999999999"} {
		v, e := Number(s)
		equal(t, "Number of "+s, v, 0)
		equal(t, "error of "+s, e, api.ErrArg)
	}
}

func TestThereAndBack(t *testing.T) {
	ints := []int{0, 1, -1, 255, 256, -256, 1 << 31, 1<<32 - 1, 1 << 32, math.MinInt, math.MaxInt}
	floats := []float64{0, math.Copysign(0, -1), 1, -0.1, 1e300, math.SmallestNonzeroFloat64, math.MaxFloat64, math.Inf(1), math.Inf(-1)}
	texts := []string{"", "a", "\x00\xff", "\u00e4\u4e16", strings.Repeat("long", 16384)}
	b := put(func(o *Out) {
		for _, v := range ints {
			o.U8(v & 255).U32(v & (1<<32 - 1)).U64(uint64(v)).I64(v)
		}
		for _, f := range floats {
			o.F64(f)
		}
		for _, s := range texts {
			o.Text(s)
		}
	})
	i := NewIn(b)
	for _, v := range ints {
		equal(t, "U8", i.U8(), v&255)
		equal(t, "U32", i.U32(), v&(1<<32-1))
		equal(t, "U64", i.U64(), uint64(v))
		equal(t, "I64", i.I64(), v)
		if digits := Digits(v); len(strings.TrimPrefix(digits, "-")) <= 18 {
			n, e := Number(digits)
			equal(t, "Number", n, v)
			equal(t, "error of Number", e, api.OK)
		}
	}
	for _, f := range floats {
		equal(t, "F64", math.Float64bits(i.F64()), math.Float64bits(f))
	}
	for _, s := range texts {
		equal(t, "Text", i.Text(65536), s)
	}
	equal(t, "End", i.End(), api.OK)
}

func TestManyPuts(t *testing.T) {
	const many = 100000
	var o Out
	for k := range many {
		o.U8(k & 255)
	}
	b, e := o.Done()
	equal(t, "Len", o.Len(), many)
	equal(t, "error", e, api.OK)
	i := NewIn(b)
	for k := range many {
		if i.U8() != k&255 {
			t.Fatalf("byte %d is another one", k)
		}
	}
	equal(t, "End", i.End(), api.OK)
}
