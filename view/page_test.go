package view

import (
	"fmt"
	"math"
	"slices"
	"strings"
	"testing"
	"unsafe"

	"chronicle/api"
)

const (
	most     = 100 // events of a page
	theNaN   = 0x7ff8000000000000
	otherNaN = 0xfff0000000000001
)

func equal[T comparable](t *testing.T, what string, got, want T) {
	t.Helper()
	if got != want {
		t.Errorf("%s: %.300s, not %.300s", what, fmt.Sprintf("%#v", got), fmt.Sprintf("%#v", want))
	}
}

// exact is an event as a text, to the bit.
func exact(s api.Stored) string {
	return fmt.Sprintf("%d %q %q %016x %q %d %d %d", s.Id, s.Type, s.Data, math.Float64bits(s.Value), s.Stream, s.Version, s.Position, s.Time)
}

// all are events as a text, to the bit.
func all(l []api.Stored) string {
	out := ""
	for _, s := range l {
		out += exact(s) + "\n"
	}
	return out
}

// whole is a page and its error as a text, to the bit.
func whole(p api.Page, e api.Errno) string {
	return fmt.Sprintf("%snext %d, end %t, error %d", all(p.Events), p.Next, p.End, e)
}

// at is an event at a position, all its parts unlike those at the others.
func at(position int) api.Stored {
	return api.Stored{
		Event:    api.Event{Id: position ^ 64, Type: fmt.Sprint("type", position), Data: fmt.Sprint("data", position), Value: float64(position) / 2},
		Stream:   fmt.Sprint("stream", position),
		Version:  100 - position,
		Position: position,
		Time:     position ^ 7,
	}
}

func events(positions ...int) []api.Stored {
	var l []api.Stored
	for _, p := range positions {
		l = append(l, at(p))
	}
	return l
}

// upTo are events at the positions 0 to n less 1.
func upTo(n int) []api.Stored {
	var l []api.Stored
	for k := range n {
		l = append(l, at(k))
	}
	return l
}

// lies says whether a text's bytes are some of another one's.
func lies(s, in string) bool {
	at, from := uintptr(unsafe.Pointer(unsafe.StringData(s))), uintptr(unsafe.Pointer(unsafe.StringData(in)))
	return from <= at && at < from+uintptr(len(in))
}

// apart holds that no text of a list lies in one of another list.
func apart(t *testing.T, what string, got, from []api.Stored) {
	t.Helper()
	for _, g := range got {
		for _, f := range from {
			for _, s := range []string{g.Type, g.Data, g.Stream} {
				for _, in := range []string{f.Type, f.Data, f.Stream} {
					if lies(s, in) {
						t.Errorf("%s: %q shares its memory", what, s)
					}
				}
			}
		}
	}
}

// cut is a page of the events at some positions, with its error.
func cut(next int, end bool, positions ...int) string {
	return whole(api.Page{Events: events(positions...), Next: next, End: end}, api.OK)
}

// refusal is what is told beside ErrArg.
const refusal = "next 0, end false, error 1"

// forward and backward hold what those must tell.
func forward(t *testing.T, l []api.Stored, from, n int, want string) {
	t.Helper()
	equal(t, fmt.Sprintf("Forward of %d events, from %d, n %d", len(l), from, n), whole(Forward(l, from, n)), want)
}

func backward(t *testing.T, l []api.Stored, from, n int, want string) {
	t.Helper()
	equal(t, fmt.Sprintf("Backward of %d events, from %d, n %d", len(l), from, n), whole(Backward(l, from, n)), want)
}

// plain reckons a page as the chapter words it: all that fit, then the first n of them.
func plain(l []api.Stored, from, n int, back bool) string {
	if from < 0 || n < 1 || n > 100 {
		return refusal
	}
	var fit []int
	for _, s := range l {
		if back && s.Position <= from || !back && s.Position >= from {
			fit = append(fit, s.Position)
		}
	}
	if back {
		slices.Reverse(fit)
	}
	end := len(fit) <= n
	fit = fit[:min(n, len(fit))]
	next := from
	for _, p := range fit {
		next = p + 1
		if back {
			next = max(p-1, -1)
		}
	}
	return cut(next, end, fit...)
}

// P1601

func TestForwardOfTheExample(t *testing.T) {
	p, e := Forward(events(3, 5, 9), 4, 1)
	equal(t, "Next", p.Next, 6)
	equal(t, "End", p.End, false)
	equal(t, "error", e, api.OK)
	equal(t, "the event", all(p.Events), all(events(5)))
}

func TestForward(t *testing.T) {
	l := events(3, 5, 9)
	for _, from := range []int{0, 1, 2, 3} {
		forward(t, l, from, 1, cut(4, false, 3))
		forward(t, l, from, 2, cut(6, false, 3, 5))
		forward(t, l, from, 3, cut(10, true, 3, 5, 9))
		forward(t, l, from, 4, cut(10, true, 3, 5, 9))
		forward(t, l, from, most, cut(10, true, 3, 5, 9))
	}
	for _, from := range []int{4, 5} {
		forward(t, l, from, 1, cut(6, false, 5))
		forward(t, l, from, 2, cut(10, true, 5, 9))
		forward(t, l, from, 3, cut(10, true, 5, 9))
	}
	for _, from := range []int{6, 8, 9} {
		forward(t, l, from, 1, cut(10, true, 9))
		forward(t, l, from, most, cut(10, true, 9))
	}
	for _, from := range []int{10, 11, 1 << 40, math.MaxInt} {
		forward(t, l, from, 1, cut(from, true))
		forward(t, l, from, most, cut(from, true))
	}
}

func TestBackward(t *testing.T) {
	l := events(3, 5, 9)
	for _, from := range []int{9, 10, 1 << 40, math.MaxInt} {
		backward(t, l, from, 1, cut(8, false, 9))
		backward(t, l, from, 2, cut(4, false, 9, 5))
		backward(t, l, from, 3, cut(2, true, 9, 5, 3))
		backward(t, l, from, 4, cut(2, true, 9, 5, 3))
		backward(t, l, from, most, cut(2, true, 9, 5, 3))
	}
	for _, from := range []int{5, 6, 8} {
		backward(t, l, from, 1, cut(4, false, 5))
		backward(t, l, from, 2, cut(2, true, 5, 3))
		backward(t, l, from, 3, cut(2, true, 5, 3))
	}
	for _, from := range []int{3, 4} {
		backward(t, l, from, 1, cut(2, true, 3))
		backward(t, l, from, most, cut(2, true, 3))
	}
	for _, from := range []int{0, 1, 2} {
		backward(t, l, from, 1, cut(from, true))
		backward(t, l, from, most, cut(from, true))
	}
}

func TestPagesOfNothing(t *testing.T) {
	for _, l := range [][]api.Stored{nil, {}} {
		for _, from := range []int{0, 1, 7, math.MaxInt} {
			for _, n := range []int{1, 2, most} {
				forward(t, l, from, n, cut(from, true))
				backward(t, l, from, n, cut(from, true))
			}
		}
	}
}

func TestPagesThatAreRefused(t *testing.T) {
	for _, l := range [][]api.Stored{nil, events(0), events(3, 5, 9), upTo(200)} {
		for _, from := range []int{-1, -2, -1 << 40, math.MinInt} {
			for _, n := range []int{1, 2, most, 0, most + 1} {
				forward(t, l, from, n, refusal)
				backward(t, l, from, n, refusal)
			}
		}
		for _, n := range []int{0, -1, -most, math.MinInt, most + 1, most + 2, 1 << 40, math.MaxInt} {
			for _, from := range []int{0, 4, 9, math.MaxInt} {
				forward(t, l, from, n, refusal)
				backward(t, l, from, n, refusal)
			}
		}
	}
}

func TestGreatestPages(t *testing.T) {
	equal(t, "MaxRead", api.MaxRead, most)
	for _, count := range []int{most - 1, most, most + 1} {
		l := upTo(count)
		p, e := Forward(l, 0, most)
		equal(t, "how many", len(p.Events), min(count, most))
		equal(t, "whether it is all", p.End, count <= most)
		equal(t, "Next", p.Next, min(count, most))
		equal(t, "error", e, api.OK)
		p, e = Backward(l, math.MaxInt, most)
		equal(t, "how many back", len(p.Events), min(count, most))
		equal(t, "whether it is all back", p.End, count <= most)
		equal(t, "Next back", p.Next, max(count-most, 0)-1)
		equal(t, "error back", e, api.OK)
	}
}

func TestPagesAtTheEndsOfInt(t *testing.T) {
	l := events(math.MinInt, -3, -1, 0, 1, math.MaxInt-1, math.MaxInt)
	forward(t, l, 0, 1, cut(1, false, 0))
	forward(t, l, 0, 2, cut(2, false, 0, 1))
	forward(t, l, 2, 1, cut(math.MaxInt, false, math.MaxInt-1))
	forward(t, l, 2, 2, cut(math.MaxInt, true, math.MaxInt-1, math.MaxInt))
	forward(t, l, math.MaxInt, 1, cut(math.MaxInt, true, math.MaxInt))
	backward(t, l, math.MaxInt, 1, cut(math.MaxInt-1, false, math.MaxInt))
	backward(t, l, math.MaxInt-1, 1, cut(math.MaxInt-2, false, math.MaxInt-1))
	backward(t, l, 1, 1, cut(0, false, 1))
	backward(t, l, 0, 1, cut(-1, false, 0))
	backward(t, l, 0, 2, cut(-1, false, 0, -1))
	backward(t, l, 0, 3, cut(-1, false, 0, -1, -3))
	backward(t, l, 0, 4, cut(-1, true, 0, -1, -3, math.MinInt))
	backward(t, events(0), 0, 1, cut(-1, true, 0))
	backward(t, events(-5), 0, 1, cut(-1, true, -5))
	backward(t, events(math.MinInt), 0, 1, cut(-1, true, math.MinInt))
	forward(t, events(math.MinInt, -1), 0, 1, cut(0, true))
}

// TestPagesOfAllSmallLists goes through all rising lists of the positions 0 to 6.
func TestPagesOfAllSmallLists(t *testing.T) {
	for set := range 1 << 7 {
		var l []api.Stored
		for p := range 7 {
			if set>>p&1 == 1 {
				l = append(l, at(p))
			}
		}
		for from := -1; from < 9; from++ {
			for n := -1; n < 9; n++ {
				forward(t, l, from, n, plain(l, from, n, false))
				backward(t, l, from, n, plain(l, from, n, true))
			}
		}
	}
}

// TestPagesOfListsOutOfOrder goes through all lists of four of the positions -1 to 3, in any order and more than once.
func TestPagesOfListsOutOfOrder(t *testing.T) {
	for k := range 5 * 5 * 5 * 5 {
		l := events(k%5-1, k/5%5-1, k/25%5-1, k/125-1)
		for from := range 5 {
			for n := 1; n < 6; n++ {
				forward(t, l, from, n, plain(l, from, n, false))
				backward(t, l, from, n, plain(l, from, n, true))
			}
		}
	}
	l := events(5, 3, 9)
	forward(t, l, 4, 1, cut(6, false, 5))
	forward(t, l, 4, 2, cut(10, true, 5, 9))
	forward(t, l, 0, 2, cut(4, false, 5, 3))
	backward(t, l, 5, 1, cut(2, false, 3))
	backward(t, l, 5, 2, cut(4, true, 3, 5))
}

// TestPagesOneBehindTheOther goes on from Next to Next: each event is seen once.
func TestPagesOneBehindTheOther(t *testing.T) {
	var l []api.Stored
	for k := range 237 {
		l = append(l, at(3*k+k%2))
	}
	turned := slices.Clone(l)
	slices.Reverse(turned)
	for _, n := range []int{1, 2, 3, 7, 79, most} {
		pages := (len(l) + n - 1) / n
		var there []api.Stored
		from := 0
		for k := range pages {
			p, e := Forward(l, from, n)
			equal(t, "error", e, api.OK)
			equal(t, "whether it is the last page", p.End, k == pages-1)
			there, from = append(there, p.Events...), p.Next
		}
		equal(t, "all of them", all(there), all(l))
		forward(t, l, from, n, cut(from, true))
		there, from = nil, 1<<40
		for k := range pages {
			p, e := Backward(l, from, n)
			equal(t, "error back", e, api.OK)
			equal(t, "whether it is the last page back", p.End, k == pages-1)
			there, from = append(there, p.Events...), p.Next
		}
		equal(t, "all of them back", all(there), all(turned))
		equal(t, "where it comes to an end", from, -1)
		backward(t, l, from, n, refusal)
	}
}

// TestPagesGoByPosition: neither by versions nor by places in the list.
func TestPagesGoByPosition(t *testing.T) {
	l := events(3, 5, 9)
	for k := range l {
		l[k].Version, l[k].Time, l[k].Id = 50-k, 7*k, -k
	}
	p, _ := Forward(l, 4, 1)
	equal(t, "Forward", all(p.Events), all(l[1:2]))
	p, _ = Backward(l, 8, 1)
	equal(t, "Backward", all(p.Events), all(l[1:2]))
}

func TestPagesTellAllOfAnEvent(t *testing.T) {
	for _, value := range []float64{0, math.Copysign(0, -1), 0.5, -1e300, math.Inf(1), math.Inf(-1), math.Float64frombits(theNaN)} {
		s := api.Stored{Event: api.Event{Id: -4, Type: "$>", Data: "3@cart-7 \x00\xff", Value: value}, Stream: "any text @", Version: -9, Position: 2, Time: -1}
		p, _ := Forward([]api.Stored{s}, 0, 1)
		equal(t, "Forward", all(p.Events), all([]api.Stored{s}))
		p, _ = Backward([]api.Stored{s}, 5, 1)
		equal(t, "Backward", all(p.Events), all([]api.Stored{s}))
	}
}

func TestPagesTellEachNaNAsTheOne(t *testing.T) {
	for _, bits := range []uint64{theNaN, otherNaN, 0x7ff0000000000001, math.MaxUint64} {
		s := at(3)
		s.Value = math.Float64frombits(bits)
		p, _ := Forward([]api.Stored{s}, 0, 1)
		equal(t, "Forward", math.Float64bits(p.Events[0].Value), uint64(theNaN))
		p, _ = Backward([]api.Stored{s}, 5, 1)
		equal(t, "Backward", math.Float64bits(p.Events[0].Value), uint64(theNaN))
		equal(t, "what was handed in", math.Float64bits(s.Value), bits)
	}
}

func TestPagesAreNewMemory(t *testing.T) {
	l := events(3, 5, 9)
	for what, f := range map[string]func([]api.Stored, int, int) (api.Page, api.Errno){"Forward": Forward, "Backward": Backward} {
		one, _ := f(l, 5, 3)
		two, _ := f(l, 5, 3)
		was := whole(one, api.OK)
		apart(t, what, one.Events, l)
		apart(t, what+" again", two.Events, one.Events)
		for k := range two.Events {
			two.Events[k] = api.Stored{}
		}
		equal(t, what+" of another answer", whole(one, api.OK), was)
		equal(t, what+" of what was handed in", all(l), all(events(3, 5, 9)))
		kept := slices.Clone(l)
		clear(l)
		equal(t, what+" of an answer so far", whole(one, api.OK), was)
		copy(l, kept)
	}
}

// TestPagesLeaveWhatLiesBehind: a page of a piece of a list writes nothing into the rest of it.
func TestPagesLeaveWhatLiesBehind(t *testing.T) {
	l := events(3, 5, 9, 12)
	Forward(l[:2], 0, most)
	Backward(l[:2], 20, most)
	equal(t, "the list", all(l), all(events(3, 5, 9, 12)))
}

func TestPagesOfLongTexts(t *testing.T) {
	s := at(1)
	s.Data, s.Type, s.Stream = strings.Repeat("d", 100_000), strings.Repeat("t", 100_000), strings.Repeat("s", 100_000)
	p, e := Forward([]api.Stored{s}, 1, 1)
	equal(t, "error", e, api.OK)
	equal(t, "the event", Same(p.Events[0], s), true)
}
