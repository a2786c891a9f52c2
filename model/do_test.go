package model

import (
	"fmt"
	"math"
	"slices"
	"testing"

	"chronicle/api"
)

// P1701

func TestDoOfTheExamples(t *testing.T) {
	s := New()
	done(t, s, appends("a", api.NoStream, 1), ok(0, 0))
	done(t, s, appends("a", api.NoStream, 1), again(0, 0))
	done(t, s, appends("a", 5, 2), wrong(0))
}

func TestDoOfMarkAndEpoch(t *testing.T) {
	for _, c := range []api.Command{marks(), begins()} {
		s := New()
		done(t, s, c, ok(0, 0))
		done(t, s, appends("a", api.Any, 1, 2, 3), ok(0, 2))
		done(t, s, appends("b", api.Any, 1), ok(0, 3))
		done(t, s, c, ok(0, 4))
		done(t, s, deletes("a", api.Any), ok(3, 4))
		done(t, s, c, ok(0, 4))
		equal(t, "Done", s.Done(), 6)
		equal(t, "Len", s.Len(), 4)
		equal(t, "Streams", fmt.Sprint(s.Streams()), "[a b]")
	}
}

// TestDoOfWhatMayNotBe: nothing of it is done, nor counted.
func TestDoOfWhatMayNotBe(t *testing.T) {
	bad := func(c api.Command, turn func(c *api.Command)) api.Command {
		turn(&c)
		return at(99, c)
	}
	good := appends("a", api.Any, 7)
	for what, c := range map[string]api.Command{
		"none":                api.Command{},
		"no kind":             bad(good, func(c *api.Command) { c.Kind = 0 }),
		"another kind":        bad(good, func(c *api.Command) { c.Kind = 6 }),
		"a kind below":        bad(good, func(c *api.Command) { c.Kind = -1 }),
		"no stream":           bad(good, func(c *api.Command) { c.Stream = "" }),
		"a long stream":       bad(good, func(c *api.Command) { c.Stream = long(61) }),
		"a stream with @":     bad(good, func(c *api.Command) { c.Stream = "a@b" }),
		"no events":           bad(good, func(c *api.Command) { c.Events = nil }),
		"an id of 0":          bad(good, func(c *api.Command) { c.Events = append(evs(7), api.Event{Type: "t"}) }),
		"no type":             bad(good, func(c *api.Command) { c.Events = []api.Event{{Id: 7}} }),
		"long data":           bad(good, func(c *api.Command) { c.Events = []api.Event{{Id: 7, Type: "t", Data: long(201)}} }),
		"another expectation": bad(good, func(c *api.Command) { c.Expected = -3 }),
		"a great expectation": bad(good, func(c *api.Command) { c.Expected = bound + 1 }),
		"metadata":            bad(good, func(c *api.Command) { c.Meta.MaxCount = 1 }),
		"bad metadata":        at(99, sets("a", -1, 0, 0)),
		"great metadata":      at(99, sets("a", 0, bound+1, 0)),
		"a SetMeta of none":   at(99, sets("", 1, 0, 0)),
		"a Delete of none":    at(99, deletes("", api.Any)),
		"a Delete of -3":      at(99, deletes("a", -3)),
		"a Mark of a stream":  bad(marks(), func(c *api.Command) { c.Stream = "a" }),
		"an Epoch of events":  bad(begins(), func(c *api.Command) { c.Events = evs(1) }),
		"a time below 0":      at(-1, good),
		"a great time":        at(bound+1, good),
		"a Mark's great time": at(math.MaxInt, marks()),
	} {
		for _, first := range [][]api.Command{nil, {appends("a", api.Any, 1), appends("b", api.Any, 1), sets("a", 5, 0, 0)}} {
			s := after(first...)
			was := asked(s)
			equal(t, what, s.Do(c), api.Answer{Err: api.ErrArg})
			equal(t, "the state behind "+what, asked(s), was)
		}
	}
	for _, n := range []int{9, 10, 1000} {
		s := New()
		done(t, s, at(5, appends("a", api.Any, make([]int, n)...)), api.Answer{Err: api.ErrLong})
		equal(t, "the state behind too many", asked(s), asked(New()))
	}
}

func TestDoGoesOnInTime(t *testing.T) {
	s := New()
	now := 0
	for k, c := range []api.Command{
		at(5, marks()), at(3, marks()), at(9, begins()), at(20, appends("a", api.Any, 1)), at(19, appends("a", api.Any, 2)),
		at(30, appends("a", 7, 3)), at(31, appends("a", api.Any, 1)), at(40, sets("a", 0, 0, 0)), at(50, deletes("a", 7)), at(60, deletes("a", api.Any)),
		at(70, appends("a", api.Any, 1)), at(71, sets("a", 0, 0, 0)), at(72, deletes("a", api.Any)), at(0, marks()), at(bound, marks()), at(7, marks()),
	} {
		now = max(now, c.Time)
		s.Do(c)
		equal(t, fmt.Sprint("Now behind ", k), s.Now(), now)
		equal(t, fmt.Sprint("Done behind ", k), s.Done(), k+1)
	}
	equal(t, "the times", fmt.Sprint(s.Every()[0].Time, s.Every()[1].Time), "20 20")
}

func TestAppendIsKeptWhole(t *testing.T) {
	s := after(at(4, appends("b", api.Any, 9)), at(2, appends("a", api.Any, 3, 5)), at(8, appends("b", api.Any, 4)))
	want := []api.Stored{
		{Event: ev(9), Stream: "b", Version: 0, Position: 0, Time: 4},
		{Event: ev(3), Stream: "a", Version: 0, Position: 1, Time: 4},
		{Event: ev(5), Stream: "a", Version: 1, Position: 2, Time: 4},
		{Event: ev(4), Stream: "b", Version: 1, Position: 3, Time: 8},
	}
	equal(t, "Every", all(s.Every()), all(want))
	for _, w := range want {
		equal(t, "At", found(s.At(w.Stream, w.Version)), found(w, true))
	}
}

func TestAppendAsManyAsMayBe(t *testing.T) {
	s := New()
	big := api.Command{Kind: api.Append, Time: bound, Stream: long(60), Expected: api.NoStream}
	for k := range 8 {
		big.Events = append(big.Events, api.Event{Id: math.MaxInt - k, Type: long(60), Data: long(200), Value: -math.MaxFloat64})
	}
	done(t, s, big, ok(0, 7))
	done(t, s, big, again(0, 7))
	for k, e := range s.Every() {
		equal(t, "one of them", exact(e), exact(api.Stored{Event: big.Events[k], Stream: big.Stream, Version: k, Position: k, Time: bound}))
	}
}

// eachExpected does a test with a stream a of 0 to 3 events, beside b of 3, and each thing that may be expected of it; is tells whether that is so.
func eachExpected(do func(s *State, count, expected int, is bool)) {
	for count := range 4 {
		for _, expected := range []int{api.Any, api.NoStream, api.Exists, 0, 1, 2, 3, 4, bound} {
			s := after(appends("b", api.Any, 1, 2, 3))
			for id := range count {
				s.Do(appends("a", api.Any, id+1))
			}
			is := expected == api.Any || expected == api.Exists && count > 0 || expected == api.NoStream && count == 0 || expected >= 0 && expected == count-1
			do(s, count, expected, is)
		}
	}
}

func TestAppendAsExpected(t *testing.T) {
	eachExpected(func(s *State, count, expected int, is bool) {
		if is {
			done(t, s, appends("a", expected, 8, 9), ok(count, count+4))
			count += 2
		} else {
			done(t, s, appends("a", expected, 8, 9), wrong(count-1))
		}
		equal(t, "Count", s.Count("a"), count)
		equal(t, "Count of another one", s.Count("b"), 3)
	})
}

func TestDeleteAsExpected(t *testing.T) {
	eachExpected(func(s *State, count, expected int, is bool) {
		if is {
			done(t, s, deletes("a", expected), ok(count, count+3))
		} else {
			done(t, s, deletes("a", expected), wrong(count-1))
		}
		equal(t, "Deleted", s.Deleted("a"), is)
		equal(t, "Deleted of another one", s.Deleted("b"), false)
		equal(t, "Count", s.Count("a"), count)
		equal(t, "Len", s.Len(), count+3)
	})
}

func TestAgain(t *testing.T) {
	s := after(appends("a", api.Any, 1), appends("b", api.Any, 1, 9), appends("a", api.Any, 2, 3), appends("b", api.Any, 5), appends("a", api.Any, 4))
	// a has the ids 1 to 4 at the positions 0, 3, 4 and 6.
	for _, x := range []struct {
		version, position int
		ids               []int
	}{
		{0, 0, []int{1}}, {0, 3, []int{1, 2}}, {0, 4, []int{1, 2, 3}}, {0, 6, []int{1, 2, 3, 4}},
		{1, 3, []int{2}}, {1, 4, []int{2, 3}}, {1, 6, []int{2, 3, 4}}, {2, 4, []int{3}}, {2, 6, []int{3, 4}}, {3, 6, []int{4}},
	} {
		for _, expected := range []int{api.Any, api.Exists, api.NoStream, 0, 1, 2, 3, 4, bound} {
			want := wrong(3)
			if expected == api.Any || expected == api.Exists || expected == x.version-1 {
				want = again(x.version, x.position)
			}
			done(t, s, appends("a", expected, x.ids...), want)
		}
	}
	for _, ids := range [][]int{{1, 3}, {1, 1}, {2, 1}, {1, 2, 4}, {1, 2, 3, 4, 5}, {4, 5}, {4, 1}, {4, 4}, {3, 4, 3}, {2, 3, 4, 9}} {
		for _, expected := range []int{api.Any, api.Exists, api.NoStream, 0, 1, 2, 3, 4} {
			done(t, s, appends("a", expected, ids...), wrong(3))
		}
	}
	equal(t, "Len", s.Len(), 7)
	equal(t, "Done", s.Done(), 5+90+80)
}

// TestAgainAsksIdsAlone: whatever else is in the events.
func TestAgainAsksIdsAlone(t *testing.T) {
	s := after(appends("a", api.Any, 1, 2))
	was := all(s.Every())
	c := appends("a", api.Any, 1, 2)
	c.Events[0] = api.Event{Id: 1, Type: "other", Data: "other", Value: math.NaN()}
	c.Events[1] = api.Event{Id: 2, Type: "another"}
	done(t, s, at(77, c), again(0, 1))
	equal(t, "Every", all(s.Every()), was)
}

func TestAgainOfTheFirstOneOfAnId(t *testing.T) {
	s := after(appends("a", api.Any, 5, 7, 7, 5, 7), appends("b", api.Any, 3))
	done(t, s, appends("a", api.Any, 5), again(0, 0))
	done(t, s, appends("a", api.NoStream, 5, 7), again(0, 1))
	done(t, s, appends("a", 2, 5, 7), wrong(4))
	done(t, s, appends("a", 0, 7, 7), again(1, 2))
	done(t, s, appends("a", 1, 7, 5), wrong(4))
	done(t, s, appends("a", api.Any, 7, 5), wrong(4))
	done(t, s, appends("a", api.Any, 5, 7, 7, 5, 7), again(0, 4))
	done(t, s, appends("b", api.Any, 7, 3, 3), ok(1, 8))
	done(t, s, appends("b", api.Any, 3, 7), again(0, 6))
}

// TestAppendAsksItsFirstIdAlone: the others may be there already.
func TestAppendAsksItsFirstIdAlone(t *testing.T) {
	s := after(appends("a", api.Any, 1, 2))
	done(t, s, appends("a", 1, 3, 1, 2, 3), ok(2, 5))
	done(t, s, appends("a", api.NoStream, 1, 2, 3, 1), again(0, 3))
	done(t, s, appends("a", 1, 3, 1), again(2, 3))
	done(t, s, appends("a", api.Any, 2, 3, 1, 2, 3), again(1, 5))
}

// TestAgainOfWhatIsNotSeen: what is hidden keeps its id.
func TestAgainOfWhatIsNotSeen(t *testing.T) {
	s := after(appends("a", api.Any, 1, 2, 3), sets("a", 1, 0, 0))
	equal(t, "Seen", fmt.Sprint(s.Seen(0), s.Seen(1), s.Seen(2)), "false false true")
	done(t, s, appends("a", api.NoStream, 1, 2), again(0, 1))
	done(t, s, appends("a", api.Any, 1, 3), wrong(2))
	done(t, s, sets("a", 0, 0, 9), ok(3, 3))
	done(t, s, appends("a", 1, 3), again(2, 2))
	done(t, s, appends("a", api.NoStream, 4), wrong(2))
	done(t, s, appends("a", api.Exists, 4), ok(3, 3))
}

// TestIdsAreThoseOfOneStream: what has the id elsewhere does not count.
func TestIdsAreThoseOfOneStream(t *testing.T) {
	s := after(appends("a", api.Any, 1, 2), deletes("a", api.Any))
	done(t, s, appends("b", api.NoStream, 1, 2), ok(0, 3))
	done(t, s, appends("B", api.NoStream, 1, 2), ok(0, 5))
	done(t, s, appends("b", api.NoStream, 1, 2), again(0, 3))
}

func TestSetMeta(t *testing.T) {
	s := New()
	done(t, s, sets("a", 1, 2, 3), ok(0, 0))
	equal(t, "MetaOf", s.MetaOf("a"), api.Meta{MaxCount: 1, MaxAge: 2, Before: 3})
	equal(t, "Streams", len(s.Streams()), 0)
	done(t, s, appends("b", api.Any, 1, 2), ok(0, 1))
	done(t, s, sets("b", bound, bound, bound), ok(2, 2))
	equal(t, "MetaOf the greatest", s.MetaOf("b"), api.Meta{MaxCount: bound, MaxAge: bound, Before: bound})
	done(t, s, sets("a", 0, 0, 7), ok(0, 2))
	equal(t, "MetaOf that were set anew", s.MetaOf("a"), api.Meta{Before: 7})
	done(t, s, appends("a", api.NoStream, 1), ok(0, 2))
	equal(t, "Floor", s.Floor("a"), 1)
	done(t, s, sets("a", 0, 0, 0), ok(1, 3))
	equal(t, "MetaOf none", s.MetaOf("a"), api.Meta{})
}

func TestDeletedTakesNothing(t *testing.T) {
	for what, first := range map[string][]api.Command{
		"with events":    {appends("a", api.Any, 1, 2), sets("a", 1, 0, 0), deletes("a", 1)},
		"without events": {sets("a", 1, 0, 0), deletes("a", api.NoStream)},
		"never named":    {deletes("a", api.Any)},
	} {
		s := after(first...)
		equal(t, "Deleted "+what, s.Deleted("a"), true)
		was := fmt.Sprint(s.Count("a"), s.Len(), s.MetaOf("a"), s.Floor("a"), s.Streams())
		for _, expected := range []int{api.Any, api.Exists, api.NoStream, 0, 1, 2, bound} {
			done(t, s, appends("a", expected, 1), deleted())
			done(t, s, appends("a", expected, 1, 2), deleted())
			done(t, s, appends("a", expected, 3), deleted())
			done(t, s, deletes("a", expected), deleted())
			done(t, s, sets("a", 0, expected&1, 0), deleted())
			equal(t, "what stands "+what, fmt.Sprint(s.Count("a"), s.Len(), s.MetaOf("a"), s.Floor("a"), s.Streams()), was)
			equal(t, "Deleted still "+what, s.Deleted("a"), true)
		}
		equal(t, "Done "+what, s.Done(), len(first)+35)
		equal(t, "Deleted of another one "+what, s.Deleted("b"), false)
		done(t, s, appends("b", api.NoStream, 1), ok(0, s.Len()))
	}
}

func TestValuesAreKept(t *testing.T) {
	for want, value := range map[uint64]float64{
		theNaN:                            math.Float64frombits(otherNaN),
		math.Float64bits(0):               0,
		1 << 63:                           math.Copysign(0, -1),
		math.Float64bits(math.Inf(1)):     math.Inf(1),
		math.Float64bits(math.Inf(-1)):    math.Inf(-1),
		1:                                 math.SmallestNonzeroFloat64,
		math.Float64bits(-0.1):            -0.1,
		math.Float64bits(math.MaxFloat64): math.MaxFloat64,
	} {
		c := appends("a", api.Any, 1, 2)
		c.Events[1].Value = value
		s := after(c)
		read, _ := s.Read("a", 1, 1, false)
		every, _ := s.All(1, 1, true)
		one, _ := s.At("a", 1)
		for what, e := range map[string]api.Stored{"Read": read.Events[0], "All": every.Events[0], "At": one, "Every": s.Every()[1], "Copy": s.Copy().Every()[1]} {
			equal(t, what, math.Float64bits(e.Value), want)
		}
		equal(t, "what was handed in", math.Float64bits(c.Events[1].Value), math.Float64bits(value))
	}
}

func TestDoLeavesWhatWasHandedIn(t *testing.T) {
	s := New()
	c := appends("a", api.Any, 1, 2, 3)
	c.Events[2].Value = math.Float64frombits(otherNaN)
	was := fmt.Sprint(c)
	l := slices.Clone(c.Events)
	s.Do(c)
	s.Do(c)
	equal(t, "the command", fmt.Sprint(c), was)
	for k := range l {
		equal(t, "an event's bits", math.Float64bits(c.Events[k].Value), math.Float64bits(l[k].Value))
	}
	kept := asked(s)
	clear(c.Events)
	equal(t, "the state", asked(s), kept)
}
