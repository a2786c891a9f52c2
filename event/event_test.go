package event

import (
	"encoding/binary"
	"fmt"
	"math"
	"slices"
	"strings"
	"testing"
	"unsafe"

	"chronicle/api"
)

const (
	bound    = 1 << 40
	theNaN   = 0x7ff8000000000000
	otherNaN = 0xfff0000000000001
)

func equal[T comparable](t *testing.T, what string, got, want T) {
	t.Helper()
	if got != want {
		t.Errorf("%s: %#v, not %#v", what, got, want)
	}
}

func long(bytes int) string { return strings.Repeat("x", bytes) }

func of(bits uint64) float64 { return math.Float64frombits(bits) }

// values are of all kinds, but for the NaN.
func values() []float64 {
	return []float64{0, math.Copysign(0, -1), 1, -1, 0.5, -0.1, 1e300, math.SmallestNonzeroFloat64, -math.SmallestNonzeroFloat64, math.MaxFloat64, math.Inf(1), math.Inf(-1)}
}

// nans are the bits of NaNs, the one first.
func nans() []uint64 {
	return []uint64{theNaN, otherNaN, 0x7ff0000000000001, 0x7ff8000000000001, 0xfff8000000000000, 0x7fffffffffffffff, math.MaxUint64}
}

// goodNumbers may be times, versions, positions and numbers of metadata.
func goodNumbers() []int { return []int{0, 1, 2, 1 << 31, 1<<32 - 1, 1 << 32, bound - 1, bound} }

// badNumbers may not.
func badNumbers() []int {
	return []int{-1, -2, -4, -bound, math.MinInt, bound + 1, 1 << 41, 1 << 62, math.MaxInt}
}

// badNames may be no streams and no types.
func badNames() []string {
	return []string{"", " ", "a b", "@", "a@b", "a\x00", "\x1f", "\x7f", "\x80", "\xff", "\u00e9", long(61), long(1000)}
}

// goodNames may be streams and types.
func goodNames() []string { return []string{"a", "!", "~", "$>", "$ce-a", "cart-7", long(60)} }

func events(n int) []api.Event {
	l := []api.Event{}
	for k := range n {
		l = append(l, api.Event{Id: k + 1, Type: fmt.Sprint("t", k), Data: long(k), Value: float64(k) / 2})
	}
	return l
}

func eventOf(id int, typ, data string, f float64) api.Event {
	return api.Event{Id: id, Type: typ, Data: data, Value: f}
}

func metaOf(count, age, before int) api.Meta {
	return api.Meta{MaxCount: count, MaxAge: age, Before: before}
}

func anAppend() api.Command {
	return api.Command{Kind: api.Append, Time: 5, Stream: "s", Expected: api.Any, Events: events(2)}
}

func aSetMeta() api.Command {
	return api.Command{Kind: api.SetMeta, Time: 5, Stream: "s", Meta: metaOf(1, 2, 3)}
}

func aDelete() api.Command {
	return api.Command{Kind: api.Delete, Time: 5, Stream: "s", Expected: 7}
}

func aMark() api.Command { return api.Command{Kind: api.Mark, Time: 5} }

func anEpoch() api.Command { return api.Command{Kind: api.Epoch, Time: 5} }

func eachKind() []api.Command {
	return []api.Command{anAppend(), aSetMeta(), aDelete(), aMark(), anEpoch()}
}

// withEvent is an Append whose second event is e.
func withEvent(e api.Event) api.Command {
	c := anAppend()
	c.Events[1] = e
	return c
}

// turned is a command in which something was turned.
func turned(c api.Command, turn func(c *api.Command)) api.Command {
	c.Events = slices.Clone(c.Events)
	turn(&c)
	return c
}

// P701

func TestValid(t *testing.T) {
	good := api.Event{Id: 1, Type: "t", Data: "d", Value: 1}
	for _, id := range []int{1, 2, bound, bound + 1, math.MaxInt} {
		e := good
		e.Id = id
		equal(t, fmt.Sprint("Valid of the id ", id), Valid(e), true)
	}
	for _, id := range []int{0, -1, math.MinInt} {
		e := good
		e.Id = id
		equal(t, fmt.Sprint("Valid of the id ", id), Valid(e), false)
	}
	for _, s := range goodNames() {
		e := good
		e.Type = s
		equal(t, fmt.Sprintf("Valid of the type %q", s), Valid(e), true)
	}
	for _, s := range badNames() {
		e := good
		e.Type = s
		equal(t, fmt.Sprintf("Valid of the type %q", s), Valid(e), false)
	}
	equal(t, "Valid of none", Valid(api.Event{}), false)
}

func TestValidOfDataAndValue(t *testing.T) {
	for n, want := range map[int]bool{0: true, 1: true, 199: true, 200: true, 201: false, 1000: false, 100000: false} {
		equal(t, fmt.Sprint("Valid of bytes ", n), Valid(api.Event{Id: 1, Type: "t", Data: long(n)}), want)
	}
	for c := range 256 {
		equal(t, fmt.Sprint("Valid of the byte ", c), Valid(api.Event{Id: 1, Type: "t", Data: string([]byte{byte(c)})}), true)
	}
	for _, f := range values() {
		equal(t, fmt.Sprint("Valid of ", f), Valid(api.Event{Id: 1, Type: "t", Value: f}), true)
	}
	for _, bits := range nans() {
		equal(t, "Valid of a NaN", Valid(api.Event{Id: 1, Type: "t", Value: of(bits)}), true)
	}
}

func TestValidMeta(t *testing.T) {
	each := func(v int, want bool) {
		t.Helper()
		for k, m := range []api.Meta{{MaxCount: v}, {MaxAge: v}, {Before: v}, metaOf(v, v, v), metaOf(v, 1, 2), metaOf(1, v, 2), metaOf(1, 2, v)} {
			equal(t, fmt.Sprint("ValidMeta of ", v, " at ", k), ValidMeta(m), want)
		}
	}
	for _, v := range goodNumbers() {
		each(v, true)
	}
	for _, v := range badNumbers() {
		each(v, false)
	}
}

// checks holds what Check must tell of c; Put must tell the same error, and no bytes beside it.
func checks(t *testing.T, what string, c api.Command, want api.Errno) {
	t.Helper()
	equal(t, "Check: "+what, Check(c), want)
	b, e := Put(c)
	equal(t, "error of Put: "+what, e, want)
	equal(t, "whether Put lays: "+what, b != "", want == api.OK)
}

func TestCheckKind(t *testing.T) {
	for _, c := range eachKind() {
		checks(t, fmt.Sprint("kind ", c.Kind), c, api.OK)
		for _, kind := range []int{0, -1, 6, 7, 255, 256, 256 + c.Kind, math.MinInt, math.MaxInt} {
			checks(t, fmt.Sprint("kind ", c.Kind, " turned into ", kind), turned(c, func(c *api.Command) { c.Kind = kind }), api.ErrArg)
		}
	}
	checks(t, "none", api.Command{}, api.ErrArg)
	for kind := range 256 {
		want := api.ErrArg
		if kind == api.Mark || kind == api.Epoch {
			want = api.OK
		}
		checks(t, fmt.Sprint("bare kind ", kind), api.Command{Kind: kind}, want)
	}
}

func TestCheckTime(t *testing.T) {
	for _, c := range eachKind() {
		for _, v := range goodNumbers() {
			checks(t, fmt.Sprint("kind ", c.Kind, ", time ", v), turned(c, func(c *api.Command) { c.Time = v }), api.OK)
		}
		for _, v := range badNumbers() {
			checks(t, fmt.Sprint("kind ", c.Kind, ", time ", v), turned(c, func(c *api.Command) { c.Time = v }), api.ErrArg)
		}
	}
}

func TestCheckStream(t *testing.T) {
	for _, c := range []api.Command{anAppend(), aSetMeta(), aDelete()} {
		for _, s := range goodNames() {
			checks(t, fmt.Sprintf("kind %d, stream %q", c.Kind, s), turned(c, func(c *api.Command) { c.Stream = s }), api.OK)
		}
		for _, s := range badNames() {
			checks(t, fmt.Sprintf("kind %d, stream %q", c.Kind, s), turned(c, func(c *api.Command) { c.Stream = s }), api.ErrArg)
		}
	}
}

func TestCheckEvents(t *testing.T) {
	for n := range 30 {
		want := api.OK
		if n == 0 {
			want = api.ErrArg
		} else if n > 8 {
			want = api.ErrLong
		}
		checks(t, fmt.Sprint("events ", n), turned(anAppend(), func(c *api.Command) { c.Events = events(n) }), want)
	}
	checks(t, "no list", turned(anAppend(), func(c *api.Command) { c.Events = nil }), api.ErrArg)
	for k := range 8 {
		for _, e := range []api.Event{{}, {Type: "t"}, {Id: -1, Type: "t"}, {Id: 1}, {Id: 1, Type: "a b"}, {Id: 1, Type: "t", Data: long(201)}} {
			checks(t, fmt.Sprint("not valid at ", k), turned(anAppend(), func(c *api.Command) { c.Events = events(8); c.Events[k] = e }), api.ErrArg)
		}
	}
	checks(t, "twins", turned(anAppend(), func(c *api.Command) { c.Events[1] = c.Events[0] }), api.OK)
	checks(t, "a NaN", withEvent(api.Event{Id: 1, Type: "t", Value: of(otherNaN)}), api.OK)
}

func TestCheckTooManyEvents(t *testing.T) {
	many := turned(anAppend(), func(c *api.Command) { c.Events = events(9) })
	for what, turn := range map[string]func(c *api.Command){
		"one is not valid": func(c *api.Command) { c.Events[3] = api.Event{} },
		"Expected":         func(c *api.Command) { c.Expected = -3 },
		"Meta":             func(c *api.Command) { c.Meta.MaxAge = 1 },
		"wrong Meta":       func(c *api.Command) { c.Meta.MaxAge = -1 },
	} {
		checks(t, "too many, ahead of: "+what, turned(many, turn), api.ErrLong)
	}
	for what, turn := range map[string]func(c *api.Command){
		"Kind":   func(c *api.Command) { c.Kind = 6 },
		"Time":   func(c *api.Command) { c.Time = -1 },
		"Stream": func(c *api.Command) { c.Stream = "" },
	} {
		checks(t, "too many, behind: "+what, turned(many, turn), api.ErrArg)
	}
	for _, c := range []api.Command{aSetMeta(), aDelete(), aMark(), anEpoch()} {
		checks(t, fmt.Sprint("too many of the kind ", c.Kind), turned(c, func(c *api.Command) { c.Events = events(9) }), api.ErrArg)
	}
}

func TestCheckExpected(t *testing.T) {
	for _, c := range []api.Command{anAppend(), aDelete()} {
		for _, v := range append(goodNumbers(), -1, -2, -4) {
			checks(t, fmt.Sprint("kind ", c.Kind, ", Expected ", v), turned(c, func(c *api.Command) { c.Expected = v }), api.OK)
		}
		for _, v := range append([]int{-3, -5, -6, -7, -8}, badNumbers()...) {
			if v != -1 && v != -2 && v != -4 {
				checks(t, fmt.Sprint("kind ", c.Kind, ", Expected ", v), turned(c, func(c *api.Command) { c.Expected = v }), api.ErrArg)
			}
		}
	}
}

func TestCheckMeta(t *testing.T) {
	each := func(v int, want api.Errno) {
		t.Helper()
		for _, m := range []api.Meta{{MaxCount: v}, {MaxAge: v}, {Before: v}, metaOf(v, v, v)} {
			checks(t, fmt.Sprint("Meta ", m), turned(aSetMeta(), func(c *api.Command) { c.Meta = m }), want)
		}
	}
	for _, v := range goodNumbers() {
		each(v, api.OK)
	}
	for _, v := range badNumbers() {
		each(v, api.ErrArg)
	}
}

func TestCheckPartsThatAKindDoesNotHave(t *testing.T) {
	stream := []func(c *api.Command){func(c *api.Command) { c.Stream = "s" }, func(c *api.Command) { c.Stream = "@" }}
	expected := []func(c *api.Command){func(c *api.Command) { c.Expected = 1 }, func(c *api.Command) { c.Expected = -1 }, func(c *api.Command) { c.Expected = -3 }}
	list := []func(c *api.Command){func(c *api.Command) { c.Events = events(1) }, func(c *api.Command) { c.Events = make([]api.Event, 1) }}
	metadata := []func(c *api.Command){func(c *api.Command) { c.Meta.MaxCount = 1 }, func(c *api.Command) { c.Meta.MaxAge = 1 }, func(c *api.Command) { c.Meta.Before = 1 }, func(c *api.Command) { c.Meta.Before = -1 }}
	for _, x := range []struct {
		c     api.Command
		turns [][]func(c *api.Command)
	}{
		{anAppend(), [][]func(c *api.Command){metadata}},
		{aSetMeta(), [][]func(c *api.Command){expected, list}},
		{aDelete(), [][]func(c *api.Command){list, metadata}},
		{aMark(), [][]func(c *api.Command){stream, expected, list, metadata}},
		{anEpoch(), [][]func(c *api.Command){stream, expected, list, metadata}},
	} {
		for k, turn := range slices.Concat(x.turns...) {
			checks(t, fmt.Sprint("kind ", x.c.Kind, ", part ", k), turned(x.c, turn), api.ErrArg)
		}
		if x.c.Kind != api.Append {
			checks(t, fmt.Sprint("kind ", x.c.Kind, ", an empty list"), turned(x.c, func(c *api.Command) { c.Events = []api.Event{} }), api.OK)
		}
	}
}

// P702

// The lays put bytes as the chapter words them, whatever they are given.

func layInt(v int) string { return string(binary.BigEndian.AppendUint64(nil, uint64(v))) }

func layText(s string) string {
	return string(binary.BigEndian.AppendUint32(nil, uint32(len(s)))) + s
}

func layEvent(e api.Event, bits uint64) string {
	return layInt(e.Id) + layText(e.Type) + layText(e.Data) + layInt(int(bits))
}

func layMany(c api.Command, many int) string {
	b := string([]byte{byte(c.Kind)}) + layInt(c.Time) + layText(c.Stream) + layInt(c.Expected) + string([]byte{byte(many)})
	for _, e := range c.Events {
		b += layEvent(e, math.Float64bits(e.Value))
	}
	return b + layInt(c.Meta.MaxCount) + layInt(c.Meta.MaxAge) + layInt(c.Meta.Before)
}

func lay(c api.Command) string { return layMany(c, len(c.Events)) }

// commands may be, and are of all kinds; they have no NaN.
func commands() []api.Command {
	l := eachKind()
	for n := 1; n <= api.MaxEvents; n++ {
		l = append(l, turned(anAppend(), func(c *api.Command) { c.Events = events(n) }))
	}
	for _, f := range values() {
		l = append(l, withEvent(api.Event{Id: math.MaxInt, Type: long(60), Data: long(200), Value: f}))
	}
	for _, v := range goodNumbers() {
		l = append(l, api.Command{Kind: api.Mark, Time: v}, api.Command{Kind: api.Epoch, Time: v},
			api.Command{Kind: api.Delete, Time: v, Stream: "$ce-a", Expected: v},
			api.Command{Kind: api.SetMeta, Stream: long(60), Meta: api.Meta{MaxCount: v, Before: 1}},
			api.Command{Kind: api.SetMeta, Stream: "s", Meta: api.Meta{MaxAge: v}})
	}
	for _, v := range []int{api.NoStream, api.Any, api.Exists} {
		l = append(l, api.Command{Kind: api.Delete, Stream: "s", Expected: v})
	}
	return append(l, withEvent(api.Event{Id: 1, Type: "t", Data: "\x00\xff\u4e16\n"}))
}

// exact tells a command with the bits of its values.
func exact(c api.Command) string {
	b := fmt.Sprintf("%d %d %q %d %v", c.Kind, c.Time, c.Stream, c.Expected, c.Meta)
	for _, e := range c.Events {
		b += fmt.Sprintf(" %d %q %q %x", e.Id, e.Type, e.Data, math.Float64bits(e.Value))
	}
	return b
}

// gets holds what Get must tell of b: an error, and nothing beside it.
func gets(t *testing.T, what, b string, want api.Errno) {
	t.Helper()
	c, e := Get(b)
	equal(t, "error of Get: "+what, e, want)
	equal(t, "Get: "+what, exact(c), exact(api.Command{}))
}

func TestPutAndGet(t *testing.T) {
	for _, c := range commands() {
		b, e := Put(c)
		equal(t, "error of Put", e, api.OK)
		equal(t, "Put of "+exact(c), b, lay(c))
		back, e := Get(b)
		equal(t, "error of Get", e, api.OK)
		equal(t, "Get", exact(back), exact(c))
		equal(t, "Same", Same(back, c), true)
	}
}

func TestPutOfAMark(t *testing.T) {
	b, e := Put(api.Command{Kind: api.Mark, Time: 258})
	equal(t, "error", e, api.OK)
	equal(t, "bytes", b, "\x04\x00\x00\x00\x00\x00\x00\x01\x02\x00\x00\x00\x00"+strings.Repeat("\x00", 8+1+24))
	c, e := Get(b)
	equal(t, "error", e, api.OK)
	equal(t, "Time", c.Time, 258)
}

func TestPutAndGetOfNaN(t *testing.T) {
	one := withEvent(api.Event{Id: 7, Type: "t", Value: of(theNaN)})
	for k, bits := range nans() {
		c := withEvent(api.Event{Id: 7, Type: "t", Value: of(bits)})
		b, e := Put(c)
		equal(t, "error of Put", e, api.OK)
		equal(t, "Put", b, lay(one))
		equal(t, "what was put", math.Float64bits(c.Events[1].Value), bits)
		back, e := Get(b)
		equal(t, "error of Get", e, api.OK)
		equal(t, "bits", math.Float64bits(back.Events[1].Value), theNaN)
		equal(t, "Same", Same(back, c), true)
		if k > 0 {
			gets(t, "another NaN", lay(c), api.ErrForm)
		}
	}
}

func TestGetOfTooFewAndTooManyBytes(t *testing.T) {
	for _, c := range commands() {
		b := lay(c)
		for n := range len(b) {
			gets(t, fmt.Sprint("first bytes ", n), b[:n], api.ErrShort)
		}
		for _, more := range []string{"\x00", "x", b, long(100)} {
			gets(t, "more behind it", b+more, api.ErrForm)
		}
	}
	gets(t, "far too few events", layMany(anAppend(), 255), api.ErrShort)
	gets(t, "one event too few", layMany(anAppend(), 3), api.ErrShort)
	gets(t, "one event too many", layMany(anAppend(), 1), api.ErrForm)
}

func TestGetOfTooLongTexts(t *testing.T) {
	stream := turned(aDelete(), func(c *api.Command) { c.Stream = long(61) })
	typ := withEvent(api.Event{Id: 1, Type: long(61)})
	data := withEvent(api.Event{Id: 1, Type: "t", Data: long(201)})
	for what, c := range map[string]api.Command{"Stream": stream, "Type": typ, "Data": data} {
		gets(t, what, lay(c), api.ErrLong)
		gets(t, what+", ahead of more behind", lay(c)+"x", api.ErrLong)
		gets(t, what+", ahead of a wrong kind", "\x09"+lay(c)[1:], api.ErrLong)
		gets(t, what+", ahead of too few", lay(c)[:len(lay(c))-1], api.ErrLong)
	}
	gets(t, "a length without its text", lay(aMark())[:9]+"\x00\x00\x00\x3d", api.ErrLong)
	gets(t, "the greatest length", lay(aMark())[:9]+"\xff\xff\xff\xff", api.ErrLong)
	gets(t, "a length that may be, without its text", lay(aMark())[:9]+"\x00\x00\x00\x3c", api.ErrShort)
}

func TestGetOfWhatMayNotBe(t *testing.T) {
	for what, c := range map[string]api.Command{
		"none":               {},
		"kind 6":             turned(anAppend(), func(c *api.Command) { c.Kind = 6 }),
		"kind 255":           turned(aMark(), func(c *api.Command) { c.Kind = 255 }),
		"time below 0":       turned(aMark(), func(c *api.Command) { c.Time = -1 }),
		"time above":         turned(aMark(), func(c *api.Command) { c.Time = bound + 1 }),
		"no stream":          turned(anAppend(), func(c *api.Command) { c.Stream = "" }),
		"wrong stream":       turned(aSetMeta(), func(c *api.Command) { c.Stream = "a b" }),
		"no events":          turned(anAppend(), func(c *api.Command) { c.Events = nil }),
		"nine events":        turned(anAppend(), func(c *api.Command) { c.Events = events(9) }),
		"255 events":         turned(anAppend(), func(c *api.Command) { c.Events = slices.Repeat(events(1), 255) }),
		"id 0":               withEvent(api.Event{Type: "t"}),
		"no type":            withEvent(api.Event{Id: 1}),
		"wrong type":         withEvent(api.Event{Id: 1, Type: "\xff"}),
		"Expected -3":        turned(aDelete(), func(c *api.Command) { c.Expected = -3 }),
		"Expected above":     turned(anAppend(), func(c *api.Command) { c.Expected = bound + 1 }),
		"Meta below 0":       turned(aSetMeta(), func(c *api.Command) { c.Meta.MaxAge = -1 }),
		"Meta above":         turned(aSetMeta(), func(c *api.Command) { c.Meta.Before = bound + 1 }),
		"an Append's Meta":   turned(anAppend(), func(c *api.Command) { c.Meta.Before = 1 }),
		"SetMeta's Expected": turned(aSetMeta(), func(c *api.Command) { c.Expected = 1 }),
		"SetMeta's Events":   turned(aSetMeta(), func(c *api.Command) { c.Events = events(1) }),
		"a Delete's Meta":    turned(aDelete(), func(c *api.Command) { c.Meta.MaxCount = 1 }),
		"a Mark's Stream":    turned(aMark(), func(c *api.Command) { c.Stream = "s" }),
		"an Epoch's Events":  turned(anEpoch(), func(c *api.Command) { c.Events = events(1) }),
	} {
		gets(t, what, lay(c), api.ErrForm)
	}
}

// eachTurn hands over all texts that differ from b in one byte.
func eachTurn(b string, hand func(b string)) {
	for k := range len(b) {
		for c := range 256 {
			if byte(c) != b[k] {
				hand(b[:k] + string([]byte{byte(c)}) + b[k+1:])
			}
		}
	}
}

func TestGetOfTurnedBytes(t *testing.T) {
	taken := 0
	for _, c := range append(eachKind(), withEvent(api.Event{Id: 1, Type: "t", Value: of(theNaN)})) {
		eachTurn(lay(c), func(b string) {
			back, e := Get(b)
			if e != api.OK {
				equal(t, "beside an error", exact(back), exact(api.Command{}))
				return
			}
			taken++
			equal(t, "Check", Check(back), api.OK)
			equal(t, "what was got", lay(back), b)
		})
	}
	equal(t, "whether some may be", taken > 1000, true)
}

// lies says whether a text's bytes are some of another one's.
func lies(s, in string) bool {
	at, from := uintptr(unsafe.Pointer(unsafe.StringData(s))), uintptr(unsafe.Pointer(unsafe.StringData(in)))
	return from <= at && at < from+uintptr(len(in))
}

func TestGetIsNewMemory(t *testing.T) {
	b := lay(anAppend())
	one, _ := Get(b)
	two, _ := Get(b)
	for _, s := range []string{one.Stream, one.Events[1].Type, one.Events[1].Data} {
		equal(t, "shares with the bytes", lies(s, b), false)
	}
	one.Events[0].Id = 99
	equal(t, "another one", exact(two), exact(anAppend()))
}

func TestNothingIsWrittenInto(t *testing.T) {
	for _, c := range commands() {
		was := exact(c)
		Check(c)
		Put(c)
		Same(c, c)
		equal(t, "behind the calls", exact(c), was)
	}
}

// P703

func TestSameEvent(t *testing.T) {
	e := eventOf(1, "t", "d", 1)
	equal(t, "itself", SameEvent(e, e), true)
	equal(t, "zero ones", SameEvent(api.Event{}, api.Event{}), true)
	for k, o := range []api.Event{{}, eventOf(2, "t", "d", 1), eventOf(-1, "t", "d", 1), eventOf(1, "u", "d", 1), eventOf(1, "", "d", 1), eventOf(1, "t", "", 1), eventOf(1, "t", "e", 1), eventOf(1, "t", "d", 2), eventOf(1, "t", "d", -1), eventOf(1, "d", "t", 1)} {
		equal(t, fmt.Sprint("another one ", k), SameEvent(e, o), false)
		equal(t, fmt.Sprint("the other way ", k), SameEvent(o, e), false)
		equal(t, fmt.Sprint("itself ", k), SameEvent(o, o), true)
	}
}

func TestSameOfValues(t *testing.T) {
	each := func(a, b float64, want bool) {
		t.Helper()
		x, y := api.Event{Id: 1, Type: "t", Value: a}, api.Event{Id: 1, Type: "t", Value: b}
		equal(t, fmt.Sprint("SameEvent of ", a, " and ", b), SameEvent(x, y), want)
		equal(t, fmt.Sprint("Same of ", a, " and ", b), Same(withEvent(x), withEvent(y)), want)
	}
	for k, a := range values() {
		for l, b := range values() {
			each(a, b, k == l)
		}
	}
	for _, a := range nans() {
		for _, b := range nans() {
			each(of(a), of(b), true)
		}
		for _, b := range values() {
			each(of(a), b, false)
			each(b, of(a), false)
		}
	}
}

func TestSame(t *testing.T) {
	full := turned(anAppend(), func(c *api.Command) { c.Meta = metaOf(1, 2, 3) })
	for _, c := range append(eachKind(), full, api.Command{}) {
		equal(t, "itself", Same(c, turned(c, func(c *api.Command) {})), true)
		for k, turn := range []func(c *api.Command){
			func(c *api.Command) { c.Kind++ },
			func(c *api.Command) { c.Time++ },
			func(c *api.Command) { c.Stream += "x" },
			func(c *api.Command) { c.Expected++ },
			func(c *api.Command) { c.Events = append(c.Events, api.Event{}) },
			func(c *api.Command) { c.Meta.MaxCount++ },
			func(c *api.Command) { c.Meta.MaxAge++ },
			func(c *api.Command) { c.Meta.Before++ },
		} {
			o := turned(c, turn)
			equal(t, fmt.Sprint("another one of the kind ", c.Kind, " at ", k), Same(c, o), false)
			equal(t, fmt.Sprint("the other way of the kind ", c.Kind, " at ", k), Same(o, c), false)
		}
	}
}

func TestSameOfEvents(t *testing.T) {
	c := turned(anAppend(), func(c *api.Command) { c.Events = events(5) })
	for k := range 5 {
		for l, turn := range []func(e *api.Event){
			func(e *api.Event) { e.Id++ },
			func(e *api.Event) { e.Type += "x" },
			func(e *api.Event) { e.Data += "x" },
			func(e *api.Event) { e.Value++ },
		} {
			o := turned(c, func(c *api.Command) { turn(&c.Events[k]) })
			equal(t, fmt.Sprint("turned ", l, " at ", k), Same(c, o) || Same(o, c), false)
		}
		fewer := turned(c, func(c *api.Command) { c.Events = slices.Delete(c.Events, k, k+1) })
		equal(t, fmt.Sprint("without that at ", k), Same(c, fewer) || Same(fewer, c), false)
	}
	swapped := turned(c, func(c *api.Command) { slices.Reverse(c.Events) })
	equal(t, "in another order", Same(c, swapped), false)
	none := turned(c, func(c *api.Command) { c.Events = nil })
	empty := turned(c, func(c *api.Command) { c.Events = []api.Event{} })
	equal(t, "no list and an empty one", Same(none, empty) && Same(empty, none), true)
	equal(t, "no events and some", Same(none, c) || Same(c, none), false)
}

// P704

func aStored() api.Stored {
	return api.Stored{Event: api.Event{Id: 7, Type: "ty", Data: "d", Value: -0.5}, Stream: "s", Version: 1, Position: 2, Time: 3}
}

func turnedStored(turn func(s *api.Stored)) api.Stored {
	s := aStored()
	turn(&s)
	return s
}

func layStored(s api.Stored) string {
	return layEvent(s.Event, math.Float64bits(s.Value)) + layText(s.Stream) + layInt(s.Version) + layInt(s.Position) + layInt(s.Time)
}

// stored may be; they have no NaN.
func stored() []api.Stored {
	l := []api.Stored{aStored(), {Event: api.Event{Id: math.MaxInt, Type: long(60), Data: long(200), Value: 1}, Stream: long(60), Version: bound, Position: bound, Time: bound}}
	for _, f := range values() {
		l = append(l, turnedStored(func(s *api.Stored) { s.Value = f }))
	}
	for _, v := range goodNumbers() {
		l = append(l, turnedStored(func(s *api.Stored) { s.Version = v }), turnedStored(func(s *api.Stored) { s.Position = v }), turnedStored(func(s *api.Stored) { s.Time = v }))
	}
	for _, n := range goodNames() {
		l = append(l, turnedStored(func(s *api.Stored) { s.Stream = n }), turnedStored(func(s *api.Stored) { s.Type = n }))
	}
	return append(l, turnedStored(func(s *api.Stored) { s.Data = "\x00\xff\u4e16\n" }), turnedStored(func(s *api.Stored) { s.Data = "" }))
}

// wrongStored may not be, but for no text that is too long.
func wrongStored() []api.Stored {
	l := []api.Stored{{}, turnedStored(func(s *api.Stored) { s.Event = api.Event{} })}
	for _, id := range []int{0, -1, math.MinInt} {
		l = append(l, turnedStored(func(s *api.Stored) { s.Id = id }))
	}
	for _, v := range badNumbers() {
		l = append(l, turnedStored(func(s *api.Stored) { s.Version = v }), turnedStored(func(s *api.Stored) { s.Position = v }), turnedStored(func(s *api.Stored) { s.Time = v }))
	}
	for _, n := range badNames() {
		if len(n) <= api.MaxName {
			l = append(l, turnedStored(func(s *api.Stored) { s.Stream = n }), turnedStored(func(s *api.Stored) { s.Type = n }))
		}
	}
	return l
}

// longStored have a text that is too long.
func longStored() []api.Stored {
	return []api.Stored{
		turnedStored(func(s *api.Stored) { s.Stream = long(61) }),
		turnedStored(func(s *api.Stored) { s.Type = long(61) }),
		turnedStored(func(s *api.Stored) { s.Data = long(201) }),
	}
}

// exactStored tells a stored event with the bits of its value.
func exactStored(s api.Stored) string {
	return fmt.Sprintf("%d %q %q %x %q %d %d %d", s.Id, s.Type, s.Data, math.Float64bits(s.Value), s.Stream, s.Version, s.Position, s.Time)
}

// getsStored holds what GetStored must tell of b: an error, and nothing beside it.
func getsStored(t *testing.T, what, b string, want api.Errno) {
	t.Helper()
	s, e := GetStored(b)
	equal(t, "error of GetStored: "+what, e, want)
	equal(t, "GetStored: "+what, exactStored(s), exactStored(api.Stored{}))
}

func TestPutStoredAndGetStored(t *testing.T) {
	for _, s := range stored() {
		b, e := PutStored(s)
		equal(t, "error of PutStored", e, api.OK)
		equal(t, "PutStored of "+exactStored(s), b, layStored(s))
		back, e := GetStored(b)
		equal(t, "error of GetStored", e, api.OK)
		equal(t, "GetStored", exactStored(back), exactStored(s))
	}
}

func TestStoredThatMayNotBe(t *testing.T) {
	for _, s := range append(wrongStored(), longStored()...) {
		b, e := PutStored(s)
		equal(t, "error of PutStored of "+exactStored(s), e, api.ErrArg)
		equal(t, "PutStored", b, "")
	}
	for _, s := range wrongStored() {
		getsStored(t, exactStored(s), layStored(s), api.ErrForm)
	}
	for _, s := range longStored() {
		b := layStored(s)
		getsStored(t, "too long", b, api.ErrLong)
		getsStored(t, "too long, ahead of more behind", b+"x", api.ErrLong)
		getsStored(t, "too long, ahead of too few", b[:len(b)-1], api.ErrLong)
	}
}

func TestStoredNaN(t *testing.T) {
	one := turnedStored(func(s *api.Stored) { s.Value = of(theNaN) })
	for k, bits := range nans() {
		s := turnedStored(func(s *api.Stored) { s.Value = of(bits) })
		b, e := PutStored(s)
		equal(t, "error of PutStored", e, api.OK)
		equal(t, "PutStored", b, layStored(one))
		back, e := GetStored(b)
		equal(t, "error of GetStored", e, api.OK)
		equal(t, "GetStored", exactStored(back), exactStored(one))
		if k > 0 {
			getsStored(t, "another NaN", layStored(s), api.ErrForm)
		}
	}
}

func TestGetStoredOfTooFewAndTooManyBytes(t *testing.T) {
	for _, s := range stored() {
		b := layStored(s)
		for n := range len(b) {
			getsStored(t, fmt.Sprint("first bytes ", n), b[:n], api.ErrShort)
		}
		for _, more := range []string{"\x00", "x", b} {
			getsStored(t, "more behind it", b+more, api.ErrForm)
		}
	}
}

func TestGetStoredOfTurnedBytes(t *testing.T) {
	taken := 0
	for _, s := range []api.Stored{aStored(), turnedStored(func(s *api.Stored) { s.Value = of(theNaN) })} {
		eachTurn(layStored(s), func(b string) {
			back, e := GetStored(b)
			if e != api.OK {
				equal(t, "beside an error", exactStored(back), exactStored(api.Stored{}))
				return
			}
			taken++
			equal(t, "what was got", layStored(back), b)
			again, e := PutStored(back)
			equal(t, "error of PutStored", e, api.OK)
			equal(t, "PutStored", again, b)
		})
	}
	equal(t, "whether some may be", taken > 1000, true)
}

func TestGetStoredIsNewMemory(t *testing.T) {
	b := layStored(aStored())
	s, _ := GetStored(b)
	for _, text := range []string{s.Type, s.Data, s.Stream} {
		equal(t, "shares with the bytes", lies(text, b), false)
	}
}
