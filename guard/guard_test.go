package guard

import (
	"errors"
	"fmt"
	"math"
	"strings"
	"testing"

	"chronicle/api"
)

func equal[T comparable](t *testing.T, what string, got, want T) {
	t.Helper()
	if got != want {
		t.Errorf("%s: %#v, not %#v", what, got, want)
	}
}

// thrown tells what a function panics with, as the language tells it: nil, if it comes to its end.
func thrown(f func()) (v any) {
	defer func() { v = recover() }()
	f()
	return nil
}

func nothing() {}

// trial is a function, and the Fault that it comes to.
type trial struct {
	what string
	f    func()
	want Fault
}

func throw(v any) func() { return func() { panic(v) } }

func all() []trial {
	var l []trial
	l = append(l, runTimeErrors()...)
	l = append(l, ownRunTimeErrors()...)
	l = append(l, numbers()...)
	l = append(l, texts()...)
	return append(l, others()...)
}

// runTimeErrors are those of the language.
func runTimeErrors() []trial {
	var list []int
	var table map[string]int
	var place *Fault
	var line chan int
	var some any = 5
	var call func()
	var number fmt.Stringer
	nought, less := 0, -1
	keys := map[any]int{}
	shut := make(chan int)
	close(shut)
	l := []trial{
		{what: "an index", f: func() { _ = list[0] }},
		{what: "an index below", f: func() { _ = []int{1}[less] }},
		{what: "a byte of a text", f: func() { _ = "ab"[nought+2] }},
		{what: "a piece", f: func() { _ = list[:2] }},
		{what: "an array of a list", f: func() { _ = [2]int(list) }},
		{what: "a nil table", f: func() { table["a"] = 1 }},
		{what: "a nil place", f: func() { place.Kind = 1 }},
		{what: "a nil function", f: func() { call() }},
		{what: "a nil interface", f: func() { _ = number.String() }},
		{what: "a division", f: func() { nought = 1 / nought }},
		{what: "a rest", f: func() { nought = 1 % nought }},
		{what: "a shift", f: func() { nought = 1 << less }},
		{what: "an assertion", f: func() { _ = some.(string) }},
		{what: "an assertion of an interface", f: func() { _ = some.(error) }},
		{what: "a length", f: func() { list = make([]int, less) }},
		{what: "a key that can't be held", f: func() { keys[list] = 1 }},
		{what: "what can't be compared", f: func() { _ = any(list) == any(list) }},
		{what: "a nil channel", f: func() { close(line) }},
		{what: "a channel closed twice", f: func() { close(shut) }},
		{what: "a channel that is closed", f: func() { shut <- 1 }},
		{what: "a panic of nil", f: throw(nil)},
		{what: "one thrown again", f: func() { throw(thrown(func() { _ = list[0] }))() }},
	}
	return wanted(l, Fault{api.ErrFault, Runtime, ""})
}

type asStruct struct{ n int }

func (asStruct) RuntimeError() {}

type asText string

func (asText) RuntimeError() {}

type asNumber api.Errno

func (asNumber) RuntimeError() {}

type asPointer struct{}

func (*asPointer) RuntimeError() { panic("called") }

type asEmbedded struct {
	api.Errno
	asStruct
}

type asError struct{ asStruct }

func (asError) Error() string { return "an error" }

// ownRunTimeErrors are of types that have the method RuntimeError.
func ownRunTimeErrors() []trial {
	l := []trial{
		{what: "a struct", f: throw(asStruct{1})},
		{what: "a pointer to a struct", f: throw(&asStruct{1})},
		{what: "a text that has the method", f: throw(asText("x"))},
		{what: "a number that has the method", f: throw(asNumber(api.ErrFull))},
		{what: "a pointer that has it", f: throw(&asPointer{})},
		{what: "a nil pointer that has it", f: throw((*asPointer)(nil))},
		{what: "an embedded one", f: throw(asEmbedded{Errno: api.ErrFull})},
		{what: "an error that has it", f: throw(asError{})},
	}
	return wanted(l, Fault{api.ErrFault, Runtime, ""})
}

func numbers() []trial {
	var l []trial
	for _, e := range []api.Errno{api.ErrArg, api.ErrLong, api.ErrForm, api.ErrOff, api.ErrFull, api.ErrFault, api.ErrWrong, api.ErrScript, -1, 3, 999, math.MaxInt, math.MinInt} {
		want := Fault{e, Number, ""}
		l = append(l, trial{fmt.Sprint("Errno ", int(e)), throw(e), want}, trial{fmt.Sprint("Must of ", int(e)), func() { Must(e) }, want})
	}
	return l
}

func texts() []trial {
	var l []trial
	for _, s := range []string{"", "x", "fail", "two words\n", "\x00\xff", "\u00e4\u4e16", "runtime error: none", strings.Repeat("long", 5000)} {
		want := Fault{api.ErrFault, Words, s}
		l = append(l, trial{"text " + s, throw(s), want}, trial{"Fail of " + s, func() { Fail(s) }, want})
	}
	return l
}

type aText string

type aNumber api.Errno

type anAlias = api.Errno

// others are values that are near to what has a kind of its own, and plain ones.
func others() []trial {
	e, s := api.ErrFull, "x"
	slip := thrown(func() { Must(api.Errno([]int{}[len(s)])) }).(error)
	l := []trial{
		{what: "api.OK", f: throw(api.OK)},
		{what: "OK by another name", f: throw(anAlias(0))},
		{what: "a pointer to an Errno", f: throw(&e)},
		{what: "an Errno's like", f: throw(aNumber(api.ErrFull))},
		{what: "an int", f: throw(int(api.ErrFull))},
		{what: "a nought", f: throw(0)},
		{what: "a pointer to a text", f: throw(&s)},
		{what: "a text's like", f: throw(aText("x"))},
		{what: "bytes", f: throw([]byte("x"))},
		{what: "runes", f: throw([]rune("x"))},
		{what: "a rune", f: throw('x')},
		{what: "an error", f: throw(errors.New("x"))},
		{what: "a run-time error within another one", f: throw(fmt.Errorf("x: %w", slip))},
		{what: "a Fault", f: throw(Fault{api.ErrFull, Number, "x"})},
		{what: "a float", f: throw(1.5)},
		{what: "a NaN", f: throw(math.NaN())},
		{what: "false", f: throw(false)},
		{what: "a nil pointer", f: throw((*int)(nil))},
		{what: "a nil error of a type", f: throw((*strings.Builder)(nil))},
		{what: "a function", f: throw(nothing)},
		{what: "a table", f: throw(map[string]int{"x": 1})},
		{what: "a struct of nothing", f: throw(struct{}{})},
		{what: "Errnos", f: throw([]api.Errno{api.ErrFull})},
		{what: "an Errno in a struct", f: throw(struct{ api.Errno }{api.ErrFull})},
	}
	return wanted(l, Fault{api.ErrFault, Other, ""})
}

func wanted(l []trial, want Fault) []trial {
	for k := range l {
		l[k].want = want
	}
	return l
}

// P401

func TestKinds(t *testing.T) {
	for k, kind := range []int{Fine, Runtime, Number, Words, Other} {
		equal(t, "kind", kind, k)
	}
}

func TestDoOfNone(t *testing.T) {
	equal(t, "Do", Do(nil), Fault{api.ErrArg, Fine, ""})
	var f func()
	equal(t, "Do of a nil variable", Do(f), Fault{api.ErrArg, Fine, ""})
}

func TestDoToTheEnd(t *testing.T) {
	ran := 0
	for what, f := range map[string]func(){
		"plainly":          func() { ran++ },
		"returned":         func() { ran++; return },
		"Must of OK":       func() { Must(api.OK); ran++ },
		"its own recovery": func() { defer func() { recover(); ran++ }(); Fail("x") },
		"deferred calls":   func() { defer func() { ran++ }() },
	} {
		was := ran
		equal(t, what, Do(f), Fault{})
		equal(t, what+": calls", ran, was+1)
	}
}

func TestDoOfWhatPanics(t *testing.T) {
	for _, x := range all() {
		equal(t, "Do of "+x.what, Do(x.f), x.want)
	}
}

func TestDoStopsWhereItPanics(t *testing.T) {
	steps := ""
	equal(t, "Do", Do(func() {
		defer func() { steps += "c" }()
		steps += "a"
		Must(api.ErrFull)
		steps += "b"
	}), Fault{api.ErrFull, Number, ""})
	equal(t, "steps", steps, "ac")
}

func TestDoKeepsNothing(t *testing.T) {
	for range 3 {
		equal(t, "a fault", Do(func() { Fail("x") }), Fault{api.ErrFault, Words, "x"})
		equal(t, "none behind it", Do(nothing), Fault{})
		equal(t, "a number behind it", Do(func() { Must(api.ErrDup) }), Fault{api.ErrDup, Number, ""})
	}
}

func tries(t *testing.T, what string, f func() int, number int, want Fault) {
	t.Helper()
	n, came := Try(f)
	equal(t, "number of Try of "+what, n, number)
	equal(t, "Fault of Try of "+what, came, want)
}

func TestTryOfNone(t *testing.T) {
	tries(t, "nil", nil, 0, Fault{api.ErrArg, Fine, ""})
}

func TestTryToTheEnd(t *testing.T) {
	for _, n := range []int{0, 1, -1, 7, int(api.ErrFull), math.MaxInt, math.MinInt} {
		ran := 0
		tries(t, "a number", func() int { ran++; return n }, n, Fault{})
		equal(t, "calls", ran, 1)
	}
	tries(t, "its own recovery", func() (n int) {
		defer func() { recover(); n = 3 }()
		Fail("x")
		return 4
	}, 3, Fault{})
}

func TestTryOfWhatPanics(t *testing.T) {
	for _, x := range all() {
		tries(t, x.what, func() int { x.f(); return 7 }, 0, x.want)
		tries(t, x.what+" with a number ahead", func() (n int) { n = 7; x.f(); return n }, 0, x.want)
		tries(t, x.what+" behind the answer", func() (n int) { defer x.f(); return 7 }, 0, x.want)
	}
}

// P402

func TestMust(t *testing.T) {
	equal(t, "Must of OK", thrown(func() { Must(api.OK) }), nil)
	for e := api.Errno(-3); e < 100; e++ {
		if e != api.OK {
			equal(t, "Must", thrown(func() { Must(e) }), any(e))
		}
	}
}

func TestFail(t *testing.T) {
	for _, s := range []string{"", "fail", "two words", "\xff\x00"} {
		equal(t, "Fail", thrown(func() { Fail(s) }), any(s))
	}
}

func firsts(t *testing.T, what string, number int, want Fault, l ...func()) {
	t.Helper()
	n, came := First(l...)
	equal(t, "number of First of "+what, n, number)
	equal(t, "Fault of First of "+what, came, want)
}

func TestFirstOfNone(t *testing.T) {
	firsts(t, "none", 0, Fault{})
	firsts(t, "a nil list", 0, Fault{}, ([]func())(nil)...)
	firsts(t, "an empty list", 0, Fault{}, []func(){}...)
}

func TestFirstOfFineOnes(t *testing.T) {
	for _, many := range []int{1, 2, 3, 500} {
		ran := ""
		var l []func()
		want := ""
		for k := range many {
			l = append(l, func() { ran += fmt.Sprint(k, " ") })
			want += fmt.Sprint(k, " ")
		}
		firsts(t, "fine ones", many, Fault{}, l...)
		equal(t, "calls", ran, want)
	}
}

func TestFirstOfWhatPanics(t *testing.T) {
	for _, x := range all() {
		firsts(t, x.what, 0, x.want, x.f)
		firsts(t, "fine ones and "+x.what, 2, x.want, nothing, nothing, x.f, nothing)
	}
	firsts(t, "nil", 0, Fault{api.ErrArg, Fine, ""}, nil)
	firsts(t, "nil at the end", 2, Fault{api.ErrArg, Fine, ""}, nothing, nothing, nil)
}

func TestFirstGoesNoFarther(t *testing.T) {
	for k := range 5 {
		for _, bad := range []func(){nil, func() { Must(api.ErrDup) }, throw(api.OK)} {
			ran := ""
			var l []func()
			for j := range 5 {
				l = append(l, func() { ran += fmt.Sprint(j) })
			}
			l[k] = bad
			firsts(t, "one that has a Fault", k, Do(bad), l...)
			equal(t, "calls", ran, "01234"[:k])
		}
	}
	firsts(t, "two that have one", 1, Fault{api.ErrFault, Words, "a"}, nothing, func() { Fail("a") }, func() { Fail("b") })
}

// P403

// below calls a function many calls deeper, with deferred ones on the way.
func below(depth int, f func()) {
	defer nothing()
	if depth == 0 {
		f()
		return
	}
	below(depth-1, f)
}

func TestNoPanicLeaves(t *testing.T) {
	for _, x := range all() {
		equal(t, "out of Do of "+x.what, thrown(func() { Do(x.f) }), nil)
		equal(t, "out of Try of "+x.what, thrown(func() { Try(func() int { x.f(); return 1 }) }), nil)
		equal(t, "out of First of "+x.what, thrown(func() { First(nothing, x.f, x.f) }), nil)
	}
	equal(t, "out of those of nil", thrown(func() { Do(nil); Try(nil); First(nil, nil) }), nil)
}

func TestFromDeepWithin(t *testing.T) {
	for _, x := range all() {
		deep := func() { below(1000, x.f) }
		equal(t, "Do of "+x.what, Do(deep), x.want)
		tries(t, x.what, func() int { deep(); return 1 }, 0, x.want)
		firsts(t, x.what, 1, x.want, nothing, deep)
	}
	equal(t, "Do", Do(func() { below(1<<16, func() { Fail("deep") }) }), Fault{api.ErrFault, Words, "deep"})
}

func TestDoWithinDo(t *testing.T) {
	for _, x := range all() {
		var inner Fault
		went := false
		outer := Do(func() {
			inner = Do(x.f)
			went = true
		})
		equal(t, "inner one of "+x.what, inner, x.want)
		equal(t, "outer one of "+x.what, outer, Fault{})
		equal(t, "went on behind "+x.what, went, true)
		equal(t, "another one behind "+x.what, Do(func() { Do(x.f); Fail("own") }), Fault{api.ErrFault, Words, "own"})
	}
}

func TestEachWithinEach(t *testing.T) {
	fail := func() { Fail("in") }
	in := Fault{api.ErrFault, Words, "in"}
	tries(t, "Do", func() int { equal(t, "Do in Try", Do(fail), in); return 5 }, 5, Fault{})
	firsts(t, "Try", 2, Fault{}, func() { tries(t, "in First", func() int { fail(); return 1 }, 0, in) }, nothing)
	equal(t, "Do of First", Do(func() { firsts(t, "in Do", 1, in, nothing, fail) }), Fault{})
	firsts(t, "First", 1, Fault{}, func() { firsts(t, "in First", 0, in, fail) })
	tries(t, "Try", func() int { tries(t, "in Try", func() int { fail(); return 1 }, 0, in); return 6 }, 6, Fault{})
}

// Each of many, one within the other, takes what the one within it hands on, and hands on its own.
func TestManyWithinOneAnother(t *testing.T) {
	const many = 1000
	var down func(k int)
	down = func(k int) {
		if k < many {
			equal(t, "the one within", Do(func() { down(k + 1) }), Fault{api.Errno(k + 1), Number, ""})
		}
		Must(api.Errno(k))
	}
	equal(t, "the outermost", Do(func() { down(1) }), Fault{1, Number, ""})
}

func TestPanicsOfDeferredCalls(t *testing.T) {
	equal(t, "the last one counts", Do(func() {
		defer Fail("later")
		Must(api.ErrFull)
	}), Fault{api.ErrFault, Words, "later"})
	equal(t, "behind the end", Do(func() { defer Must(api.ErrFull) }), Fault{api.ErrFull, Number, ""})
	equal(t, "taken, and thrown anew", Do(func() {
		defer func() { throw(recover())() }()
		Must(api.ErrFull)
	}), Fault{api.ErrFull, Number, ""})
}

// A Do in a call that is deferred takes nothing of the panic that is on its way there.
func TestDoOnTheWayOfAPanic(t *testing.T) {
	var fine, inner Fault
	outer := Do(func() {
		defer func() {
			fine = Do(nothing)
			inner = Do(func() { Must(api.ErrDup) })
		}()
		Fail("out")
	})
	equal(t, "what was fine", fine, Fault{})
	equal(t, "what panicked", inner, Fault{api.ErrDup, Number, ""})
	equal(t, "outer one", outer, Fault{api.ErrFault, Words, "out"})
}
