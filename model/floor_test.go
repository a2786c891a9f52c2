package model

import (
	"fmt"
	"testing"

	"chronicle/api"
)

// timed is a state whose stream a has events of these times.
func timed(times ...int) *State {
	s := New()
	for k, time := range times {
		s.Do(at(time, appends("a", api.Any, k+1)))
	}
	return s
}

// floors holds that a's first version that is to be seen is one, in all that tells it.
func floors(t *testing.T, what string, s *State, want int) {
	t.Helper()
	equal(t, what+": Floor", s.Floor("a"), want)
	count := s.Count("a")
	for version := range count {
		e, is := s.At("a", version)
		equal(t, fmt.Sprint(what, ": At of ", version), is, version >= want)
		for position, other := range s.Every() {
			if other.Stream == "a" && other.Version == version {
				equal(t, fmt.Sprint(what, ": Seen of ", version), s.Seen(position), is)
				equal(t, fmt.Sprint(what, ": the event of ", version), !is || exact(e) == exact(other), true)
			}
		}
	}
	p, err := s.Read("a", 0, most, false)
	equal(t, what+": error of Read", err, api.OK)
	equal(t, what+": events that are read", len(p.Events), count-want)
	for k, e := range p.Events {
		equal(t, what+": a version that is read", e.Version, want+k)
	}
}

// P1701, P1702: the floor.

func TestFloorOfNothing(t *testing.T) {
	for _, s := range []*State{nil, {}, New(), after(marks()), after(appends("b", api.Any, 1), sets("c", 1, 1, 1), deletes("d", api.Any))} {
		for _, stream := range []string{"a", "c", "d", "none", "", "a b", long(61)} {
			equal(t, "Floor", s.Floor(stream), 0)
		}
	}
}

func TestFloorByCount(t *testing.T) {
	for count, want := range map[int]int{0: 0, 1: 4, 2: 3, 4: 1, 5: 0, 6: 0, bound: 0} {
		s := timed(0, 0, 0, 0, 0)
		s.Do(sets("a", count, 0, 0))
		floors(t, fmt.Sprint("count ", count), s, want)
		s.Do(appends("a", api.Any, 9))
		if count > 0 {
			want = max(0, 6-count)
		}
		floors(t, fmt.Sprint("one more, count ", count), s, want)
		s.Do(appends("b", api.Any, 9))
		floors(t, fmt.Sprint("one more elsewhere, count ", count), s, want)
	}
}

func TestFloorByBefore(t *testing.T) {
	for before, want := range map[int]int{0: 0, 1: 1, 4: 4, 5: 5, 6: 5, bound: 5} {
		s := timed(0, 0, 0, 0, 0)
		s.Do(sets("a", 0, 0, before))
		floors(t, fmt.Sprint("before ", before), s, want)
		s.Do(appends("a", api.Any, 9))
		floors(t, fmt.Sprint("one more, before ", before), s, min(before, 6))
	}
}

func TestFloorByAge(t *testing.T) {
	s := timed(10, 20, 20, 35)
	s.Do(sets("a", 0, 10, 0))
	for _, x := range [][2]int{{35, 3}, {36, 3}, {44, 3}, {45, 4}, {46, 4}, {1000, 4}, {bound, 4}} {
		s.Do(at(x[0], marks()))
		floors(t, fmt.Sprint("now ", x[0]), s, x[1])
	}
	for _, x := range [][3]int{{1, 35, 3}, {14, 35, 3}, {15, 35, 3}, {16, 35, 1}, {25, 35, 1}, {26, 35, 0}, {35, 35, 0}, {36, 35, 0}, {bound, 35, 0}, {1, 36, 4}, {2, 36, 3}, {bound, bound, 0}, {bound - 10, bound, 1}} {
		s := timed(10, 20, 20, 35)
		s.Do(at(x[1], sets("a", 0, x[0], 0)))
		floors(t, fmt.Sprint("age ", x[0], " now ", x[1]), s, x[2])
	}
	s = timed(0, bound)
	s.Do(sets("a", 0, bound, 0))
	floors(t, "the greatest age", s, 1)
	s.Do(sets("a", 0, 1, 0))
	floors(t, "the least age", s, 1)
	s = timed(0, 1, bound)
	s.Do(sets("a", 0, bound, 0))
	floors(t, "just as old", s, 1)
}

// TestFloorGoesByNow: not by the Time of the command that makes it, which may be less.
func TestFloorGoesByNow(t *testing.T) {
	s := timed(10, 20, 30)
	s.Do(at(50, marks()))
	s.Do(at(3, sets("a", 0, 25, 0)))
	floors(t, "a SetMeta of an earlier time", s, 2)
	s.Do(at(0, appends("a", api.Any, 4)))
	floors(t, "an Append of an earlier time", s, 2)
	equal(t, "its time", s.Every()[3].Time, 50)
	s.Do(at(74, begins()))
	floors(t, "an Epoch", s, 3)
	s.Do(at(75, deletes("b", api.Any)))
	floors(t, "a command of another stream", s, 4)
}

func TestFloorIsTheGreatest(t *testing.T) {
	for _, x := range []struct{ count, age, before, want int }{
		{2, 26, 1, 3}, {4, 26, 1, 2}, {4, 100, 3, 3}, {4, 100, 0, 1}, {9, 100, 0, 0}, {9, 100, 9, 5}, {9, 1, 0, 5}, {1, 26, 0, 4},
	} {
		s := timed(10, 20, 30, 40, 50)
		s.Do(at(55, sets("a", x.count, x.age, x.before)))
		floors(t, fmt.Sprint(x), s, x.want)
	}
}

// TestFloorIsKept: what was hidden stays so under other metadata.
func TestFloorIsKept(t *testing.T) {
	for what, first := range map[string]api.Command{
		"count":  sets("a", 2, 0, 0),
		"age":    at(50, sets("a", 0, 20, 0)),
		"before": sets("a", 0, 0, 3),
	} {
		s := timed(10, 20, 30, 40, 45)
		s.Do(first)
		floors(t, what, s, 3)
		for _, next := range []api.Command{sets("a", 0, 0, 0), sets("a", 5, 0, 0), sets("a", 0, bound, 0), sets("a", 0, 0, 1), sets("a", 4, 100, 2)} {
			s := s.Copy()
			s.Do(next)
			floors(t, what+" kept", s, 3)
			s.Do(sets("a", 0, 0, 0))
			floors(t, what+" kept twice", s, 3)
			s.Do(sets("a", 1, 0, 0))
			floors(t, what+", then a greater one", s, 4)
			s.Do(sets("a", 0, 0, 0))
			s.Do(appends("a", api.Any, 9))
			floors(t, what+", then one more", s, 4)
		}
	}
}

// TestFloorIsKeptAsItWasReached: by what came to pass under the metadata that were, also by commands that name no stream, or another one.
func TestFloorIsKeptAsItWasReached(t *testing.T) {
	s := timed(10, 20, 30, 40)
	s.Do(sets("a", 0, 15, 0))
	s.Do(at(45, marks()))
	s.Do(sets("a", 0, 0, 0))
	floors(t, "by a Mark", s, 3)

	s = timed(10, 20, 30, 40)
	s.Do(sets("a", 0, 15, 0))
	s.Do(at(54, appends("b", api.Any, 1)))
	s.Do(sets("a", 0, 0, 0))
	floors(t, "by another stream's Append", s, 3)

	s = timed(10, 20, 30, 40)
	s.Do(sets("a", 0, 15, 0))
	s.Do(at(60, sets("a", 0, 0, 0)))
	floors(t, "by the SetMeta's own time", s, 4)

	s = timed(10, 20, 30, 40)
	s.Do(sets("a", 3, 0, 0))
	s.Do(appends("a", api.Any, 8, 9))
	s.Do(sets("a", 0, 0, 0))
	floors(t, "by an Append", s, 3)

	s = New()
	s.Do(sets("a", 0, 0, 2))
	s.Do(sets("a", 0, 0, 0))
	s.Do(appends("a", api.Any, 1, 2, 3))
	floors(t, "of no event yet", s, 0)

	s = timed(10, 20)
	s.Do(sets("a", 0, 0, 9))
	s.Do(sets("a", 0, 0, 0))
	s.Do(appends("a", api.Any, 7, 8, 9))
	floors(t, "of no more than there were", s, 2)
}

// TestFloorOfADeletedStream goes on, though none of its events is seen.
func TestFloorOfADeletedStream(t *testing.T) {
	s := timed(10, 20, 30, 40)
	s.Do(sets("a", 0, 15, 0))
	s.Do(deletes("a", api.Any))
	equal(t, "Floor", s.Floor("a"), 2)
	s.Do(at(45, marks()))
	equal(t, "Floor later", s.Floor("a"), 3)
	s.Do(at(60, sets("a", 0, 0, 0)))
	equal(t, "Floor behind a SetMeta that was refused", s.Floor("a"), 4)
	equal(t, "MetaOf", s.MetaOf("a"), api.Meta{MaxAge: 15})
	for position := range 4 {
		equal(t, "Seen", s.Seen(position), false)
		equal(t, "At", found(s.At("a", position)), found(api.Stored{}, false))
	}
}

func TestFloorOfEachStream(t *testing.T) {
	s := after(at(1, appends("a", api.Any, 1, 2, 3)), at(2, appends("b", api.Any, 1, 2, 3)), sets("a", 2, 0, 0), sets("b", 1, 0, 0), at(3, appends("c", api.Any, 1, 2, 3)))
	equal(t, "Floors", fmt.Sprint(s.Floor("a"), s.Floor("b"), s.Floor("c")), "1 2 0")
	s.Do(sets("b", 0, 1, 0))
	equal(t, "Floors behind one", fmt.Sprint(s.Floor("a"), s.Floor("b"), s.Floor("c")), "1 3 0")
	seen := ""
	for position := range s.Len() {
		seen += fmt.Sprint(s.Seen(position), " ")
	}
	equal(t, "Seen", seen, "false true true false false false true true true ")
}

// TestFloorsOfAllSmallCases holds floors against the chapter's words, whatever two metadata follow each other, and at which times.
func TestFloorsOfAllSmallCases(t *testing.T) {
	for k := range 4 * 4 * 3 * 4 * 4 * 3 {
		one := sets("a", k%4, k/4%4, k/16%3)
		two := sets("a", k/48%4, k/192%4, k/768%3)
		for now := range 4 {
			s, p := New(), newPlain()
			for _, c := range []api.Command{
				appends("a", api.Any, 1), at(1, appends("a", api.Any, 2)), at(2, appends("a", api.Any, 3)), one,
				at(2+now/2, marks()), at(2+now, two), appends("a", api.Any, 4), at(4+now, marks()),
			} {
				equal(t, "Do", s.Do(c), p.Do(c))
				if s.Floor("a") != p.Floor("a") {
					t.Fatal(one.Meta, two.Meta, now, s.Floor("a"), p.Floor("a"))
				}
			}
		}
	}
}
