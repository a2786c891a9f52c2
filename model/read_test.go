package model

import (
	"fmt"
	"math"
	"testing"

	"chronicle/api"
)

// several is a state of several streams: a has the positions 0, 2, 3, 6 and 8, b has 1, 4 and 5, c has 7 and 9; b was deleted, and of a the versions 0 and 1 are hidden.
func several() *State {
	return after(
		at(1, appends("a", api.Any, 11)), at(2, appends("b", api.Any, 12)), at(3, appends("a", api.Any, 13, 14)),
		at(4, appends("b", api.Any, 15, 16)), at(5, appends("a", api.Any, 17)), at(6, appends("c", api.Any, 18)),
		at(7, appends("a", api.Any, 19)), at(8, appends("c", api.Any, 20)), deletes("b", 2), sets("a", 3, 0, 0))
}

// stored is what stands at a position of several.
func stored(position int) api.Stored {
	streams := []string{"a", "b", "a", "a", "b", "b", "a", "c", "a", "c"}
	versions := []int{0, 0, 1, 2, 1, 2, 3, 0, 4, 1}
	times := []int{1, 2, 3, 3, 4, 4, 5, 6, 7, 8}
	return api.Stored{Event: ev(position + 11), Stream: streams[position], Version: versions[position], Position: position, Time: times[position]}
}

// reads and alls hold what Read and All must tell.
func reads(t *testing.T, s *State, stream string, from, n int, back bool, want string) {
	t.Helper()
	equal(t, fmt.Sprintf("Read of %.9q from %d, n %d, back %t", stream, from, n, back), whole(s.Read(stream, from, n, back)), want)
}

func alls(t *testing.T, s *State, from, n int, back bool, want string) {
	t.Helper()
	equal(t, fmt.Sprintf("All from %d, n %d, back %t", from, n, back), whole(s.All(from, n, back)), want)
}

// P1702

func TestWhatIsTold(t *testing.T) {
	s := several()
	equal(t, "Len", s.Len(), 10)
	equal(t, "Done", s.Done(), 10)
	equal(t, "Now", s.Now(), 8)
	equal(t, "Streams", fmt.Sprint(s.Streams()), "[a b c]")
	equal(t, "Count", fmt.Sprint(s.Count("a"), s.Count("b"), s.Count("c"), s.Count("d"), s.Count("")), "5 3 2 0 0")
	equal(t, "Floor", fmt.Sprint(s.Floor("a"), s.Floor("b"), s.Floor("c"), s.Floor("d")), "2 0 0 0")
	equal(t, "Deleted", fmt.Sprint(s.Deleted("a"), s.Deleted("b"), s.Deleted("c"), s.Deleted("d")), "false true false false")
	equal(t, "MetaOf", fmt.Sprint(s.MetaOf("a"), s.MetaOf("b"), s.MetaOf("d")), "{3 0 0} {0 0 0} {0 0 0}")
	var every []api.Stored
	for position := range 10 {
		every = append(every, stored(position))
		is := position != 0 && position != 2 && stored(position).Stream != "b"
		equal(t, fmt.Sprint("Seen ", position), s.Seen(position), is)
		want := api.Stored{}
		if is {
			want = stored(position)
		}
		equal(t, fmt.Sprint("At ", position), found(s.At(stored(position).Stream, stored(position).Version)), found(want, is))
	}
	equal(t, "Every", all(s.Every()), all(every))
}

func TestWhatIsNotThere(t *testing.T) {
	s := several()
	for _, position := range []int{-1, -10, math.MinInt, 10, 11, bound, math.MaxInt} {
		equal(t, fmt.Sprint("Seen ", position), s.Seen(position), false)
		for _, stream := range names() {
			equal(t, fmt.Sprint("At ", stream, position), found(s.At(stream, position)), found(api.Stored{}, false))
		}
	}
	equal(t, "At behind the last one", found(s.At("c", 2)), found(api.Stored{}, false))
	equal(t, "At of another one's version", found(s.At("c", 4)), found(api.Stored{}, false))
}

// TestStreamsRise: in the order of their bytes, each once, and those with events alone.
func TestStreamsRise(t *testing.T) {
	s := New()
	for k, stream := range []string{"b", "ab", "~", "a", "$ce-a", "B", "a-1", "a!", long(60), "!", "b", "~"} {
		s.Do(appends(stream, api.Any, k+1))
		s.Do(sets(stream+"0", 1, 1, 1))
		s.Do(deletes(stream+"1", api.Any))
	}
	s.Do(deletes("b", api.Any))
	equal(t, "Streams", fmt.Sprintf("%q", s.Streams()), fmt.Sprintf("%q", []string{"!", "$ce-a", "B", "a", "a!", "a-1", "ab", "b", long(60), "~"}))
	s.Do(appends("b", api.Any, 99))
	equal(t, "how many", len(s.Streams()), 10)
}

// P1703

func TestReadForward(t *testing.T) {
	s := several()
	for _, from := range []int{0, 1, 2} {
		reads(t, s, "a", from, 1, false, cut(3, false, stored(3)))
		reads(t, s, "a", from, 2, false, cut(4, false, stored(3), stored(6)))
		reads(t, s, "a", from, 3, false, cut(5, true, stored(3), stored(6), stored(8)))
		reads(t, s, "a", from, most, false, cut(5, true, stored(3), stored(6), stored(8)))
	}
	reads(t, s, "a", 3, 1, false, cut(4, false, stored(6)))
	reads(t, s, "a", 4, 1, false, cut(5, true, stored(8)))
	for _, from := range []int{5, 6, bound, math.MaxInt} {
		reads(t, s, "a", from, 1, false, cut(from, true))
	}
	reads(t, s, "c", 0, 1, false, cut(1, false, stored(7)))
	reads(t, s, "c", 1, 1, false, cut(2, true, stored(9)))
}

func TestReadBackward(t *testing.T) {
	s := several()
	for _, from := range []int{4, 5, 8, bound, math.MaxInt} {
		reads(t, s, "a", from, 1, true, cut(3, false, stored(8)))
		reads(t, s, "a", from, 2, true, cut(2, false, stored(8), stored(6)))
		reads(t, s, "a", from, 3, true, cut(1, true, stored(8), stored(6), stored(3)))
		reads(t, s, "a", from, most, true, cut(1, true, stored(8), stored(6), stored(3)))
	}
	reads(t, s, "a", 3, 1, true, cut(2, false, stored(6)))
	reads(t, s, "a", 2, 1, true, cut(1, true, stored(3)))
	reads(t, s, "a", 1, 1, true, cut(1, true))
	reads(t, s, "a", 0, 1, true, cut(0, true))
	reads(t, s, "c", 9, 2, true, cut(-1, true, stored(9), stored(7)))
	reads(t, s, "c", 0, 2, true, cut(-1, true, stored(7)))
	reads(t, s, "c", 1, 1, true, cut(0, false, stored(9)))
}

func TestReadThatIsRefused(t *testing.T) {
	s := several()
	s.Do(sets("set", 1, 0, 0))
	s.Do(deletes("none", api.NoStream))
	for _, back := range []bool{false, true} {
		for _, stream := range []string{"a", "b", "none", "set", "never"} {
			for _, from := range []int{-1, -2, math.MinInt} {
				for _, n := range []int{1, most, 0, most + 1} {
					reads(t, s, stream, from, n, back, refusal(api.ErrArg))
				}
			}
			for _, n := range []int{0, -1, -most, most + 1, math.MinInt, math.MaxInt} {
				reads(t, s, stream, 0, n, back, refusal(api.ErrArg))
				reads(t, s, stream, math.MaxInt, n, back, refusal(api.ErrArg))
			}
		}
		for _, stream := range []string{"", " ", "a b", "x@a", "@", "a\n", "\x7f", "\xff", "é", long(61), long(1000)} {
			reads(t, s, stream, 0, 1, back, refusal(api.ErrArg))
			reads(t, s, stream, -1, 0, back, refusal(api.ErrArg))
		}
		for _, from := range []int{0, 1, 2, 3, 99, math.MaxInt} {
			for _, n := range []int{1, 2, most} {
				reads(t, s, "b", from, n, back, refusal(api.ErrDeleted))
				reads(t, s, "none", from, n, back, refusal(api.ErrDeleted))
				reads(t, s, "set", from, n, back, refusal(api.ErrNone))
				reads(t, s, "never", from, n, back, refusal(api.ErrNone))
				reads(t, s, long(60), from, n, back, refusal(api.ErrNone))
			}
		}
	}
}

func TestReadOfAllThatIsHidden(t *testing.T) {
	s := several()
	s.Do(sets("c", 0, 0, 9))
	for _, from := range []int{0, 1, 2, 3, math.MaxInt} {
		reads(t, s, "c", from, 1, false, cut(from, true))
		reads(t, s, "c", from, most, true, cut(from, true))
	}
}

func TestAllForward(t *testing.T) {
	s := several()
	for _, from := range []int{0, 1, 2, 3} {
		alls(t, s, from, 1, false, cut(4, false, stored(3)))
		alls(t, s, from, 2, false, cut(7, false, stored(3), stored(6)))
		alls(t, s, from, 4, false, cut(9, false, stored(3), stored(6), stored(7), stored(8)))
		alls(t, s, from, 5, false, cut(10, true, stored(3), stored(6), stored(7), stored(8), stored(9)))
		alls(t, s, from, most, false, cut(10, true, stored(3), stored(6), stored(7), stored(8), stored(9)))
	}
	for _, from := range []int{4, 5, 6} {
		alls(t, s, from, 1, false, cut(7, false, stored(6)))
	}
	alls(t, s, 9, 1, false, cut(10, true, stored(9)))
	for _, from := range []int{10, 11, math.MaxInt} {
		alls(t, s, from, 1, false, cut(from, true))
	}
}

func TestAllBackward(t *testing.T) {
	s := several()
	for _, from := range []int{9, 10, bound, math.MaxInt} {
		alls(t, s, from, 1, true, cut(8, false, stored(9)))
		alls(t, s, from, 4, true, cut(5, false, stored(9), stored(8), stored(7), stored(6)))
		alls(t, s, from, 5, true, cut(2, true, stored(9), stored(8), stored(7), stored(6), stored(3)))
		alls(t, s, from, most, true, cut(2, true, stored(9), stored(8), stored(7), stored(6), stored(3)))
	}
	for _, from := range []int{3, 4, 5} {
		alls(t, s, from, 1, true, cut(2, true, stored(3)))
	}
	alls(t, s, 6, 1, true, cut(5, false, stored(6)))
	for _, from := range []int{0, 1, 2} {
		alls(t, s, from, 1, true, cut(from, true))
	}
}

func TestAllThatIsRefused(t *testing.T) {
	for _, s := range []*State{several(), New(), {}} {
		for _, back := range []bool{false, true} {
			for _, from := range []int{-1, -2, math.MinInt} {
				for _, n := range []int{1, most, 0, most + 1} {
					alls(t, s, from, n, back, refusal(api.ErrArg))
				}
			}
			for _, n := range []int{0, -1, -most, most + 1, math.MinInt, math.MaxInt} {
				for _, from := range []int{0, 3, 9, math.MaxInt} {
					alls(t, s, from, n, back, refusal(api.ErrArg))
				}
			}
		}
	}
}

func TestAllOfNothing(t *testing.T) {
	gone := after(appends("a", api.Any, 1, 2), deletes("a", api.Any), appends("b", api.Any, 1), sets("b", 0, 0, 1))
	for _, s := range []*State{New(), {}, after(marks()), gone} {
		for _, from := range []int{0, 1, 2, 3, math.MaxInt} {
			alls(t, s, from, 1, false, cut(from, true))
			alls(t, s, from, most, true, cut(from, true))
		}
	}
}

// TestGreatestPages: of just as many as may be read, one less, and one more.
func TestGreatestPages(t *testing.T) {
	for _, count := range []int{most - 1, most, most + 1, 2*most + 5} {
		s := New()
		for id := range count {
			s.Do(appends("a", api.Any, id+1))
		}
		every := s.Every()
		for _, back := range []bool{false, true} {
			from, next, first := 0, min(count, most), every[:min(count, most)]
			if back {
				from, next, first = count-1, max(count-1-most, -1), nil
				for k := count - 1; k > next; k-- {
					first = append(first, every[k])
				}
			}
			reads(t, s, "a", from, most, back, cut(next, count <= most, first...))
			alls(t, s, from, most, back, cut(next, count <= most, first...))
		}
	}
}

// TestPagesGoThroughAll: page by page each event that is seen comes once, in order.
func TestPagesGoThroughAll(t *testing.T) {
	s := several()
	for n := 1; n <= 6; n++ {
		for _, back := range []bool{false, true} {
			for what, read := range map[string]func(from int) (api.Page, api.Errno){
				"All":  func(from int) (api.Page, api.Errno) { return s.All(from, n, back) },
				"Read": func(from int) (api.Page, api.Errno) { return s.Read("a", from, n, back) },
			} {
				positions, from := "", 0
				if back {
					from = s.Len()
				}
				for range 20 {
					p, err := read(from)
					equal(t, "error", err, api.OK)
					for _, e := range p.Events {
						positions += fmt.Sprint(e.Position, " ")
					}
					if from = p.Next; p.End {
						break
					}
				}
				want := map[string]string{"All false": "3 6 7 8 9 ", "All true": "9 8 7 6 3 ", "Read false": "3 6 8 ", "Read true": "8 6 3 "}
				equal(t, fmt.Sprint(what, n, back), positions, want[fmt.Sprint(what, " ", back)])
			}
		}
	}
}
