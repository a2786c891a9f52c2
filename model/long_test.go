package model

import (
	"fmt"
	"maps"
	"math"
	"math/rand"
	"slices"
	"testing"

	"chronicle/api"
)

// someCommand is a command drawn by chance, of few streams and ids, so that much meets.
func someCommand(r *rand.Rand, now int) api.Command {
	pick := func(l ...int) int { return l[r.Intn(len(l))] }
	c := api.Command{Stream: names()[r.Intn(5)], Time: max(0, now+r.Intn(5)-1)}
	switch r.Intn(12) {
	case 0:
		return at(c.Time, api.Command{Kind: pick(api.Mark, api.Epoch)})
	case 1, 2:
		c.Kind = api.SetMeta
		c.Meta = api.Meta{MaxCount: pick(0, 0, 1, 2, 3, 5, 8), MaxAge: pick(0, 0, 1, 3, 9, 30), Before: pick(0, 0, 0, 1, 2, 5, 9)}
		return c
	case 3:
		c.Kind, c.Expected = api.Delete, pick(api.Exists, api.NoStream, 0, 1, 2, 5)
		return c
	case 4: // one that may not be
		c.Kind, c.Expected, c.Events = pick(0, 6, api.Append, api.SetMeta, api.Delete, api.Mark), -3, evs(0)
		return c
	}
	c.Kind, c.Expected = api.Append, pick(api.Any, api.Any, api.Any, api.Exists, api.NoStream, r.Intn(10))
	for range 1 + r.Intn(3) {
		e := ev(1 + r.Intn(40))
		e.Value = []float64{1, math.Float64frombits(otherNaN), math.Copysign(0, -1), math.Inf(-1)}[r.Intn(4)]
		c.Events = append(c.Events, e)
	}
	return c
}

// may tells whether a drawn command may be.
func may(c api.Command) bool { return c.Expected != -3 }

func (p *plain) twin() *plain {
	twin := newPlain()
	twin.done, twin.now, twin.events = p.done, p.now, slices.Clone(p.events)
	twin.metas, twin.kept, twin.gone = maps.Clone(p.metas), maps.Clone(p.kept), maps.Clone(p.gone)
	return twin
}

// P1701 to P1703, by chance.

func TestLongRuns(t *testing.T) {
	came := map[string]int{}
	for seed := range 120 {
		r := rand.New(rand.NewSource(int64(seed)))
		s, p := New(), newPlain()
		for step := range 80 {
			c := someCommand(r, p.now)
			want := api.Answer{Err: api.ErrArg}
			if may(c) {
				want = p.Do(c)
			}
			if got := s.Do(c); got != want {
				t.Fatalf("seed %d, step %d: Do of %+v: %+v, not %+v", seed, step, c, got, want)
			}
			came[fmt.Sprint(c.Kind, want.Err, want.Again)]++
			if step%8 == 0 && asked(s) != asked(p) {
				t.Fatalf("seed %d, step %d: %s, not %s", seed, step, asked(s), asked(p))
			}
		}
		equal(t, "pages", paged(s), paged(p))
	}
	for _, what := range []string{
		"1 0 false", "1 0 true", "1 22 false", "1 23 false", "1 1 false", "2 0 false", "2 23 false", "2 1 false",
		"3 0 false", "3 22 false", "3 23 false", "3 1 false", "4 0 false", "4 1 false", "5 0 false",
	} {
		equal(t, "whether there were some of "+what, came[what] > 10, true)
	}
}

// TestLongRunsOfCopies: of states that were copied, as values or by Copy, each goes its own way.
func TestLongRunsOfCopies(t *testing.T) {
	for seed := range 60 {
		r := rand.New(rand.NewSource(int64(seed)))
		states, plains := []*State{New()}, []*plain{newPlain()}
		for step := range 150 {
			k := r.Intn(len(states))
			switch draw := r.Intn(15); {
			case draw == 0 && len(states) < 8:
				value := *states[k]
				states, plains = append(states, &value), append(plains, plains[k].twin())
			case draw == 1 && len(states) < 8:
				states, plains = append(states, states[k].Copy()), append(plains, plains[k].twin())
			case draw == 2:
				other := r.Intn(len(states))
				*states[k], plains[k] = *states[other], plains[other].twin()
			default:
				if c := someCommand(r, plains[k].now); may(c) {
					if got, want := states[k].Do(c), plains[k].Do(c); got != want {
						t.Fatalf("seed %d, step %d: Do of %+v: %+v, not %+v", seed, step, c, got, want)
					}
				}
			}
		}
		for k, s := range states {
			equal(t, fmt.Sprint("seed ", seed, ", state ", k), asked(s), asked(plains[k]))
			for other, o := range states {
				equal(t, "Same", s.Same(o), asked(plains[k]) == asked(plains[other]))
			}
		}
	}
}

// P1705

func TestNothingComesBack(t *testing.T) {
	hidden, rose := 0, 0
	for seed := range 40 {
		r := rand.New(rand.NewSource(int64(1000 + seed)))
		s := New()
		var every []api.Stored
		gone, floors := map[int]bool{}, map[string]int{}
		for range 150 {
			c := someCommand(r, s.Now())
			was := map[string]int{}
			for _, name := range names() {
				if s.Deleted(name) {
					was[name] = 1 + s.Count(name)
				}
			}
			s.Do(c)
			equal(t, "events that were there", all(s.Every()[:len(every)]), all(every))
			every = s.Every()
			for position := range every {
				if gone[position] && s.Seen(position) {
					t.Fatal("seen again", seed, position)
				}
				gone[position] = !s.Seen(position)
			}
			for _, name := range names() {
				if s.Floor(name) < floors[name] || was[name] > 0 && (s.Count(name) != was[name]-1 || !s.Deleted(name)) {
					t.Fatal("fell, or took something", seed, name)
				}
				if s.Floor(name) > floors[name] {
					rose++
				}
				floors[name] = s.Floor(name)
			}
		}
		for position := range every {
			if gone[position] {
				hidden++
			}
		}
	}
	equal(t, "whether floors often rose", rose > 200, true)
	equal(t, "whether many are hidden", hidden > 500, true)
}

// TestDoneTwice: a command that is done twice with the same ids comes to the same version.
func TestDoneTwice(t *testing.T) {
	twice := 0
	for seed := range 60 {
		r := rand.New(rand.NewSource(int64(2000 + seed)))
		s := New()
		for range 60 {
			c := someCommand(r, s.Now())
			a := s.Do(c)
			if c.Kind != api.Append || a.Err != api.OK || r.Intn(3) == 0 {
				continue
			}
			count := s.Len()
			b := s.Do(c)
			twice++
			equal(t, "Err", b.Err, api.OK)
			equal(t, "Version", b.Version, a.Version)
			equal(t, "Position", b.Position, a.Position)
			equal(t, "Again", b.Again, true)
			equal(t, "Len", s.Len(), count)
		}
	}
	equal(t, "whether many were done twice", twice > 300, true)
}

// TestManyEvents: it goes on quickly where there is much.
func TestManyEvents(t *testing.T) {
	const count = 200_000
	s := New()
	s.Do(sets("a", 0, 5000, 0))
	for k := range count {
		stream := "a"
		if k%4 == 0 {
			stream = fmt.Sprint("cart-", k%1000)
		}
		s.Do(at(k, appends(stream, api.Any, k+1)))
	}
	equal(t, "Len", s.Len(), count)
	equal(t, "Count", s.Count("a"), count/4*3)
	equal(t, "Streams", len(s.Streams()), 251)
	equal(t, "Floor", s.Floor("a"), (count-5000)/4*3)
	seen := 0
	for position := range count {
		e := s.events()[position]
		_, is := s.At(e.Stream, e.Version)
		equal(t, "At and Seen", is, s.Seen(position))
		if is {
			seen++
		}
	}
	equal(t, "how many are seen", seen, count/4+5000/4*3)
	from, read := 0, 0
	for range count {
		p, _ := s.All(from, most, false)
		from, read = p.Next, read+len(p.Events)
		if p.End {
			break
		}
	}
	equal(t, "how many are read", read, seen)
	done(t, s, appends("a", 41, 60), wrong(count/4*3-1))
	done(t, s, appends("a", api.Any, count), again(count/4*3-1, count-1))
	equal(t, "Same", s.Same(s.Copy()), true)
}
