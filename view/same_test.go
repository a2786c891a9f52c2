package view

import (
	"fmt"
	"math"
	"slices"
	"strings"
	"testing"

	"chronicle/api"
)

// turns are all that may be unlike in an event.
func turns() map[string]func(s *api.Stored) {
	return map[string]func(s *api.Stored){
		"Id":        func(s *api.Stored) { s.Id++ },
		"Type":      func(s *api.Stored) { s.Type += "x" },
		"Data":      func(s *api.Stored) { s.Data += "x" },
		"Value":     func(s *api.Stored) { s.Value = 77 },
		"Stream":    func(s *api.Stored) { s.Stream += "x" },
		"Version":   func(s *api.Stored) { s.Version++ },
		"Position":  func(s *api.Stored) { s.Position++ },
		"Time":      func(s *api.Stored) { s.Time++ },
		"Id down":   func(s *api.Stored) { s.Id = -s.Id },
		"no Type":   func(s *api.Stored) { s.Type = "" },
		"no Data":   func(s *api.Stored) { s.Data = "" },
		"no Stream": func(s *api.Stored) { s.Stream = "" },
	}
}

// kinds are events of many kinds, no two alike.
func kinds() []api.Stored {
	l := []api.Stored{{}, at(1), at(2), as(1, "$>", "3@a"), as(1, "$unresolved", "3@a")}
	for _, value := range values() {
		s := at(1)
		s.Value = value
		l = append(l, s)
	}
	return l
}

// values are of all kinds, no two the same, and none that at(1) has.
func values() []float64 {
	return []float64{math.Float64frombits(theNaN), math.Inf(-1), -math.MaxFloat64, -1, -math.SmallestNonzeroFloat64, math.Copysign(0, -1), 0, math.SmallestNonzeroFloat64, 1, math.Nextafter(1, 2), math.MaxFloat64, math.Inf(1)}
}

// twin is an event alike to another one, in other memory.
func twin(s api.Stored) api.Stored {
	s.Type, s.Data, s.Stream = strings.Clone(s.Type), strings.Clone(s.Data), strings.Clone(s.Stream)
	return s
}

// pages are pages of many kinds, no two alike.
func pages() []api.Page {
	var l []api.Page
	odd := at(4)
	odd.Value = math.NaN()
	nought := at(4)
	nought.Value = math.Copysign(0, -1)
	for _, some := range [][]api.Stored{nil, events(4), events(5), events(4, 5), events(5, 4), events(4, 4), events(4, 5, 6), {odd}, {nought}, {odd, odd}, {{}}, {{}, {}}} {
		for _, next := range []int{-1, 0, 7, math.MaxInt} {
			l = append(l, api.Page{Events: some, Next: next}, api.Page{Events: some, Next: next, End: true})
		}
	}
	return l
}

// P1603

func TestSameOfAllKinds(t *testing.T) {
	for i, a := range kinds() {
		for j, b := range kinds() {
			equal(t, fmt.Sprint("Same of ", exact(a), " and ", exact(b)), Same(a, twin(b)), i == j)
		}
	}
}

func TestSameOfEachPart(t *testing.T) {
	for _, s := range kinds() {
		equal(t, "Same of a twin", Same(s, twin(s)), true)
		for what, turn := range turns() {
			other := twin(s)
			turn(&other)
			if exact(other) == exact(s) {
				continue // what was empty already
			}
			equal(t, "Same with another "+what, Same(s, other), false)
			equal(t, "Same of another "+what, Same(other, s), false)
		}
	}
}

func TestSameOfNaNs(t *testing.T) {
	bits := []uint64{theNaN, otherNaN, 0x7ff0000000000001, 0x7ff8000000000001, 0xfff8000000000000, math.MaxUint64}
	for _, one := range bits {
		for _, two := range bits {
			a, b := at(3), at(3)
			a.Value, b.Value = math.Float64frombits(one), math.Float64frombits(two)
			equal(t, fmt.Sprintf("Same of the NaNs %x and %x", one, two), Same(a, b), true)
			equal(t, fmt.Sprintf("SamePage of the NaNs %x and %x", one, two), SamePage(api.Page{Events: []api.Stored{a}}, api.Page{Events: []api.Stored{b}}), true)
			b.Version++
			equal(t, "Same of NaNs in unlike events", Same(a, b), false)
		}
	}
}

func TestSameOfNoughts(t *testing.T) {
	a, b := at(3), at(3)
	a.Value, b.Value = 0, math.Copysign(0, -1)
	equal(t, "Same of 0 and -0", Same(a, b), false)
	equal(t, "Same of -0 and 0", Same(b, a), false)
	equal(t, "Same of -0", Same(b, twin(b)), true)
	equal(t, "SamePage of 0 and -0", SamePage(api.Page{Events: []api.Stored{a}}, api.Page{Events: []api.Stored{b}}), false)
}

func TestSameAtTheEndsOfInt(t *testing.T) {
	ends := []int{math.MinInt, -1, 0, 1, math.MaxInt}
	for _, one := range ends {
		for _, two := range ends {
			a, b := at(3), at(3)
			a.Id, a.Version, a.Position, a.Time = one, one, one, one
			b.Id, b.Version, b.Position, b.Time = two, two, two, two
			equal(t, fmt.Sprint("Same of ", one, " and ", two), Same(a, b), one == two)
		}
	}
}

func TestSamePageOfAllKinds(t *testing.T) {
	for i, a := range pages() {
		for j, b := range pages() {
			b.Events = slices.Clone(b.Events)
			equal(t, fmt.Sprint("SamePage of ", whole(a, 0), " and ", whole(b, 0)), SamePage(a, b), i == j)
		}
	}
}

func TestSamePageOfNothing(t *testing.T) {
	equal(t, "SamePage of nil and of no events", SamePage(api.Page{}, api.Page{Events: []api.Stored{}}), true)
	equal(t, "SamePage of no events and of nil", SamePage(api.Page{Events: []api.Stored{}}, api.Page{}), true)
	equal(t, "SamePage of nothing and of one", SamePage(api.Page{}, api.Page{Events: []api.Stored{{}}}), false)
	equal(t, "SamePage of one and of nothing", SamePage(api.Page{Events: []api.Stored{{}}}, api.Page{}), false)
}

func TestSamePageOfEachEvent(t *testing.T) {
	l := events(3, 5, 9)
	for k := range l {
		for what, turn := range turns() {
			other := slices.Clone(l)
			turn(&other[k])
			equal(t, fmt.Sprint("SamePage with another ", what, " at ", k), SamePage(api.Page{Events: l}, api.Page{Events: other}), false)
		}
	}
}

func TestSamePageOfPagesThatWereCut(t *testing.T) {
	l := events(3, 5, 9)
	one, _ := Forward(l, 4, 2)
	two, _ := Forward(l, 5, 9)
	equal(t, "the same page", SamePage(one, two), true)
	two, _ = Forward(l, 4, 1)
	equal(t, "a shorter one", SamePage(one, two), false)
	two, _ = Backward(l, 9, 2)
	equal(t, "one backwards", SamePage(one, two), false)
}

func TestSameWritesNothing(t *testing.T) {
	l := kinds()
	was := all(l)
	SamePage(api.Page{Events: l}, api.Page{Events: kinds()})
	equal(t, "what was handed in", all(l), was)
}
