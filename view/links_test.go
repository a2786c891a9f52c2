package view

import (
	"errors"
	"fmt"
	"math"
	"slices"
	"strings"
	"testing"

	"chronicle/api"
	"chronicle/guard"
)

type finder = func(version int, stream string) (api.Stored, bool)

// as is an event at a position, of a type and with data.
func as(position int, typ, data string) api.Stored {
	s := at(position)
	s.Type, s.Data = typ, data
	return s
}

// found is what a finder tells of a link.
func found(version int, stream string) api.Stored {
	return api.Stored{
		Event:    api.Event{Id: 7, Type: "found", Data: fmt.Sprint(version, " of ", stream), Value: -0.5},
		Stream:   stream,
		Version:  version,
		Position: 1000 + version,
		Time:     5,
	}
}

func always(version int, stream string) (api.Stored, bool) { return found(version, stream), true }

func never(int, string) (api.Stored, bool) { return api.Stored{}, false }

// links holds what Links must tell.
func links(t *testing.T, what string, l []api.Stored, r finder, want ...api.Stored) {
	t.Helper()
	was := all(l)
	equal(t, "Links "+what, all(Links(l, r)), all(want))
	equal(t, "what was handed in "+what, all(l), was)
}

// P1602

func TestLinksOfAll(t *testing.T) {
	l := []api.Stored{as(0, "made", "x"), as(1, "$>", "3@cart-7"), as(2, "put", "4@cart-7"), as(3, "$>", "0@a"), as(4, "made", "")}
	links(t, "that are found", l, always, l[0], found(3, "cart-7"), l[2], found(0, "a"), l[4])
	links(t, "that are not found", l, never, l[0], as(1, "$unresolved", "3@cart-7"), l[2], as(3, "$unresolved", "0@a"), l[4])
	links(t, "without a finder", l, nil, l[0], as(1, "$unresolved", "3@cart-7"), l[2], as(3, "$unresolved", "0@a"), l[4])
	some := func(version int, stream string) (api.Stored, bool) { return found(version, stream), stream == "a" }
	links(t, "of which some are found", l, some, l[0], as(1, "$unresolved", "3@cart-7"), l[2], found(0, "a"), l[4])
}

func TestLinksOfNothing(t *testing.T) {
	for _, l := range [][]api.Stored{nil, {}} {
		links(t, "of nothing", l, always)
		links(t, "of nothing without a finder", l, nil)
	}
}

func TestLinksOfWhatIsNoLink(t *testing.T) {
	for _, typ := range []string{"", "$", ">", "$> ", " $>", "$>>", "$$>", "$unresolved", "made", "$ce-cart", ">$"} {
		s := as(1, typ, "3@cart-7")
		links(t, "of the type "+typ, []api.Stored{s}, always, s)
		links(t, "of the type "+typ, []api.Stored{s}, never, s)
		links(t, "of the type "+typ, []api.Stored{s}, nil, s)
	}
	long := strings.Repeat("x", 61)
	for _, data := range []string{"", "@", "3", "3@", "@cart-7", "-1@cart-7", "-0@cart-7", "03@cart-7", "+3@cart-7", " 3@cart-7", "3 @cart-7", "3@ cart-7", "3@cart 7", "3@cart-7 ", "3@@cart-7", "3@cart@7", "x@cart-7", "3.0@cart-7", "3@cart-7\n", "3@\u00e9", "3@\x7f", "3@" + long, "1000000000000000000@cart-7", "cart-7@3x@"} {
		s := as(1, "$>", data)
		links(t, "of the data "+data, []api.Stored{s}, always, s)
		links(t, "of the data "+data, []api.Stored{s}, never, s)
		links(t, "of the data "+data, []api.Stored{s}, nil, s)
	}
}

// TestLinksAskOfEachLink: just of those, in their order, once each.
func TestLinksAskOfEachLink(t *testing.T) {
	name := strings.Repeat("x", 60)
	l := []api.Stored{
		as(0, "made", "9@no"), as(1, "$>", "3@cart-7"), as(2, "$>", "none"), as(3, "$>", "0@$ce-cart"),
		as(4, "$>", "999999999999999999@"+name), as(5, "$>", "3@cart-7"), as(6, "$unresolved", "9@no"),
	}
	asked := ""
	r := func(version int, stream string) (api.Stored, bool) {
		asked += fmt.Sprint(version, " ", stream, "; ")
		return found(version, stream), version != 0
	}
	links(t, "of several", l, r, l[0], found(3, "cart-7"), l[2], as(3, "$unresolved", "0@$ce-cart"), found(999999999999999999, name), found(3, "cart-7"), l[6])
	equal(t, "what was asked", asked, "3 cart-7; 0 $ce-cart; 999999999999999999 "+name+"; 3 cart-7; ")
}

// TestLinksAreReplacedOnce: what a link leads to stays as it is told, also where that is a link.
func TestLinksAreReplacedOnce(t *testing.T) {
	calls := 0
	r := func(version int, stream string) (api.Stored, bool) {
		calls++
		return as(version, "$>", "5@other"), true
	}
	links(t, "to a link", []api.Stored{as(1, "$>", "3@cart-7")}, r, as(3, "$>", "5@other"))
	equal(t, "calls", calls, 1)
}

// TestLinksThatAreNotFoundStayThemselves: whatever stands beside the false.
func TestLinksThatAreNotFoundStayThemselves(t *testing.T) {
	r := func(version int, stream string) (api.Stored, bool) { return found(version, stream), false }
	for _, value := range []float64{0, math.Copysign(0, -1), math.Inf(-1), 0.1} {
		s := as(8, "$>", "3@cart-7")
		s.Value = value
		want := s
		want.Type = "$unresolved"
		links(t, "that is not found", []api.Stored{s}, r, want)
	}
}

func TestLinksToWhateverIsTold(t *testing.T) {
	for _, to := range []api.Stored{{}, {Event: api.Event{Id: -1, Type: "a b", Data: "\xff", Value: math.Copysign(0, -1)}, Stream: "@", Version: -5, Position: math.MinInt, Time: math.MaxInt}, as(2, "$unresolved", "3@cart-7")} {
		r := func(int, string) (api.Stored, bool) { return to, true }
		links(t, "to whatever", []api.Stored{as(1, "$>", "3@cart-7")}, r, to)
	}
}

func TestLinksTellEachNaNAsTheOne(t *testing.T) {
	odd := as(1, "$>", "3@cart-7")
	odd.Value = math.Float64frombits(otherNaN)
	kept := as(2, "made", "")
	kept.Value = odd.Value
	for what, r := range map[string]finder{
		"found":     func(int, string) (api.Stored, bool) { return odd, true },
		"not found": never,
	} {
		for _, s := range Links([]api.Stored{odd, kept}, r) {
			equal(t, what, math.Float64bits(s.Value), uint64(theNaN))
		}
	}
	equal(t, "what was handed in", math.Float64bits(odd.Value), uint64(otherNaN))
}

// TestLinksOfAFinderThatPanics: a link of which nothing is told leads nowhere, and the others count.
func TestLinksOfAFinderThatPanics(t *testing.T) {
	var none []int
	for what, fail := range map[string]func(){
		"by a run-time error": func() { _ = none[3] },
		"by a number":         func() { guard.Must(api.ErrFull) },
		"by words":            func() { guard.Fail("no such event") },
		"by nil":              func() { panic(nil) },
		"by an error":         func() { panic(errors.New("no")) },
		"by OK":               func() { panic(api.OK) },
	} {
		r := func(version int, stream string) (api.Stored, bool) {
			if stream == "bad" {
				fail()
			}
			return found(version, stream), true
		}
		l := []api.Stored{as(1, "$>", "1@a"), as(2, "$>", "2@bad"), as(3, "made", ""), as(4, "$>", "4@b")}
		links(t, what, l, r, found(1, "a"), as(2, "$unresolved", "2@bad"), l[2], found(4, "b"))
	}
}

// TestLinksOfAFinderThatWrites: what a finder writes into the list comes too late.
func TestLinksOfAFinderThatWrites(t *testing.T) {
	l := []api.Stored{as(1, "$>", "1@a"), as(2, "made", "x"), as(3, "$>", "3@b")}
	want := all([]api.Stored{found(1, "a"), as(2, "made", "x"), found(3, "b")})
	r := func(version int, stream string) (api.Stored, bool) {
		clear(l)
		return found(version, stream), true
	}
	equal(t, "Links", all(Links(l, r)), want)
}

// TestLinksWithinLinks: a finder may ask for links itself.
func TestLinksWithinLinks(t *testing.T) {
	r := func(version int, stream string) (api.Stored, bool) {
		return Links([]api.Stored{as(version, "$>", "5@inner")}, always)[0], true
	}
	links(t, "within", []api.Stored{as(1, "$>", "1@a")}, r, found(5, "inner"))
}

func TestLinksAreNewMemory(t *testing.T) {
	l := []api.Stored{as(1, "made", "data"), as(2, "$>", "2@found"), as(3, "$>", "none at all"), as(4, "$>", "4@lost"), as(5, "$>", "5@found")}
	to := found(2, "found")
	r := func(version int, stream string) (api.Stored, bool) {
		for _, s := range l {
			equal(t, "what is asked shares", lies(stream, s.Data), false)
		}
		return to, stream == "found"
	}
	was := all(l)
	one, two := Links(l, r), Links(l, r)
	apart(t, "Links and the list", one, l)
	apart(t, "Links and what is told", one, []api.Stored{to})
	apart(t, "one event and another one that is told alike", one[1:2], one[4:])
	apart(t, "two answers", one[:3], two[:3])
	kept := all(one)
	clear(two)
	equal(t, "another answer", all(one), kept)
	equal(t, "what was handed in", all(l), was)
	clear(l)
	equal(t, "an answer so far", all(one), kept)
}

func TestLinksLeaveWhatLiesBehind(t *testing.T) {
	l := []api.Stored{as(1, "$>", "1@a"), as(2, "$>", "2@b"), as(3, "$>", "3@c")}
	was := all(l)
	_ = append(Links(l[:1], always), at(9))
	_ = append(Links(l[:0], nil), at(9))
	equal(t, "the list", all(l), was)
}

func TestLinksOfMany(t *testing.T) {
	var l, want []api.Stored
	for k := range 10_000 {
		l = append(l, as(k, "$>", fmt.Sprint(k, "@cart-", k%7)))
		want = append(want, found(k, fmt.Sprint("cart-", k%7)))
	}
	equal(t, "Links of many", slices.EqualFunc(Links(l, always), want, Same), true)
}
