package model

import (
	"fmt"
	"math"
	"testing"

	"chronicle/api"
)

// someCommands come to states no two of which are alike.
func someCommands() map[string][]api.Command {
	odd := func(value float64) api.Command {
		c := appends("a", api.Any, 1)
		c.Events[0].Value = value
		return c
	}
	turned := func(turn func(e *api.Event)) api.Command {
		c := appends("a", api.Any, 1)
		turn(&c.Events[0])
		return c
	}
	return map[string][]api.Command{
		"nothing":                     {},
		"a Mark":                      {marks()},
		"two Marks":                   {marks(), marks()},
		"a Mark at 1":                 {at(1, marks())},
		"an Append":                   {appends("a", api.Any, 1)},
		"an Append at 1":              {at(1, appends("a", api.Any, 1))},
		"an Append ahead of a Mark":   {appends("a", api.Any, 1), at(1, marks())},
		"an Append behind a Mark":     {at(1, marks()), appends("a", api.Any, 1)},
		"an Append elsewhere":         {appends("b", api.Any, 1)},
		"an Append of two":            {appends("a", api.Any, 1, 2)},
		"two Appends":                 {appends("a", api.Any, 1), appends("a", api.Any, 2)},
		"two Appends, one in b":       {appends("a", api.Any, 1), appends("b", api.Any, 2)},
		"two Appends, one in b first": {appends("b", api.Any, 2), appends("a", api.Any, 1)},
		"another Id":                  {turned(func(e *api.Event) { e.Id = 2 })},
		"another Type":                {turned(func(e *api.Event) { e.Type = "other" })},
		"another Data":                {turned(func(e *api.Event) { e.Data = "" })},
		"a NaN":                       {odd(math.NaN())},
		"a nought":                    {odd(0)},
		"a nought below":              {odd(math.Copysign(0, -1))},
		"an infinity":                 {odd(math.Inf(1))},
		"an infinity below":           {odd(math.Inf(-1))},
		"a MaxCount":                  {appends("a", api.Any, 1), sets("a", 1, 0, 0)},
		"a MaxAge":                    {appends("a", api.Any, 1), sets("a", 0, 1, 0)},
		"another MaxAge":              {appends("a", api.Any, 1), sets("a", 0, 2, 0)},
		"a Before":                    {appends("a", api.Any, 1), sets("a", 0, 0, 1)},
		"a SetMeta of nothing":        {sets("a", 1, 0, 0)},
		"a SetMeta of nothing in b":   {sets("b", 1, 0, 0)},
		"a Delete":                    {appends("a", api.Any, 1), deletes("a", api.Any)},
		"a Delete elsewhere":          {appends("a", api.Any, 1), deletes("b", api.Any)},
		"a Delete of nothing":         {deletes("a", api.Any)},
		"a floor that was kept":       {appends("a", api.Any, 1), sets("a", 0, 0, 1), sets("a", 0, 0, 0)},
		"no floor that was kept":      {appends("a", api.Any, 1), sets("a", 0, 0, 0), sets("a", 0, 0, 0)},
		"metadata, set anew":          {appends("a", api.Any, 1), sets("a", 1, 1, 0), sets("a", 1, 0, 0)},
	}
}

// P1704

func TestSame(t *testing.T) {
	told := map[string]string{}
	for what, l := range someCommands() {
		s := after(l...)
		text := asked(s) + paged(s)
		if told[text] != "" {
			t.Errorf("%s and %s: nothing that is asked tells them apart", what, told[text])
		}
		told[text] = what
		for other, m := range someCommands() {
			equal(t, what+" and "+other, s.Same(after(m...)), what == other)
		}
	}
}

// TestSameOfOneThatCameThereOtherwise: alike in all that is asked, by other commands.
func TestSameOfOneThatCameThereOtherwise(t *testing.T) {
	for what, l := range map[string][2][]api.Command{
		"NaNs": {
			{{Kind: api.Append, Stream: "a", Expected: api.Any, Events: []api.Event{{Id: 1, Type: "t", Value: math.Float64frombits(otherNaN)}}}},
			{{Kind: api.Append, Stream: "a", Expected: api.Any, Events: []api.Event{{Id: 1, Type: "t", Value: math.NaN()}}}},
		},
		"Mark and Epoch":     {{marks()}, {begins()}},
		"what came to wrong": {{deletes("a", 5), appends("b", api.Exists, 1)}, {marks(), marks()}},
		"metadata of none":   {{sets("a", 0, 0, 0)}, {marks()}},
		"metadata set anew":  {{sets("a", 1, 2, 3), sets("a", 3, 2, 1)}, {marks(), sets("a", 3, 2, 1)}},
		"one by one":         {{appends("a", api.Any, 1, 2), marks()}, {appends("a", api.NoStream, 1), appends("a", 0, 2)}},
		"Again":              {{appends("a", api.Any, 1), appends("a", api.NoStream, 1)}, {appends("a", api.NoStream, 1), appends("b", api.Exists, 1)}},
		"Times":              {{at(5, marks()), at(3, appends("a", api.Any, 1))}, {at(1, begins()), at(5, appends("a", api.Any, 1))}},
	} {
		s, o := after(l[0]...), after(l[1]...)
		equal(t, what, s.Same(o), true)
		equal(t, what+" the other way", o.Same(s), true)
		equal(t, what+": asked", asked(s)+paged(s), asked(o)+paged(o))
	}
}

// TestSameOfLittle turns one thing in a greater state.
func TestSameOfLittle(t *testing.T) {
	s := several()
	equal(t, "itself", s.Same(s), true)
	equal(t, "one that was made alike", s.Same(several()), true)
	for what, l := range map[string][2]api.Command{
		"a time":     {at(9, marks()), at(10, marks())},
		"a Delete":   {deletes("c", 1), deletes("c", 5)},
		"a floor":    {sets("c", 0, 0, 1), sets("c", 0, 0, 2)},
		"a new one":  {sets("z", 0, 0, 1), marks()},
		"an event":   {appends("c", 1, 77), appends("c", 2, 77)},
		"its stream": {appends("y", api.NoStream, 77), appends("z", api.NoStream, 77)},
	} {
		a, b := several(), several()
		a.Do(l[0])
		equal(t, what+" ahead", a.Same(b), false)
		equal(t, what+" behind", b.Same(a), false)
		b.Do(l[1])
		equal(t, what, a.Same(b), false)
		equal(t, what+" the other way", b.Same(a), false)
		c := several()
		c.Do(l[0])
		equal(t, what+" alike", a.Same(c), true)
	}
}

func TestNilAndZero(t *testing.T) {
	var none *State
	for _, c := range []api.Command{appends("a", api.Any, 1), sets("a", 1, 0, 0), deletes("a", api.Any), marks(), begins(), {}, appends("a", api.Any, make([]int, 9)...)} {
		equal(t, "Do of nil", none.Do(c), api.Answer{Err: api.ErrArg})
	}
	equal(t, "nil", asked(none), asked(newPlain()))
	for _, stream := range names() {
		for _, back := range []bool{false, true} {
			reads(t, none, stream, 0, 1, back, refusal(api.ErrArg))
			alls(t, none, 0, 1, back, refusal(api.ErrArg))
			alls(t, none, -1, 0, back, refusal(api.ErrArg))
		}
	}
	equal(t, "Copy of nil", none.Copy() == nil, true)
	equal(t, "Same of nils", none.Same(nil), true)
	equal(t, "Same of nil and New", none.Same(New()), false)
	equal(t, "Same of New and nil", New().Same(nil), false)
	equal(t, "Same of a state and nil", several().Same(none), false)

	var zero State
	equal(t, "Same of zero and New", zero.Same(New()), true)
	equal(t, "Same of New and zero", New().Same(&zero), true)
	equal(t, "zero", asked(&zero)+paged(&zero), asked(newPlain())+paged(newPlain()))
	equal(t, "Copy of zero", zero.Copy().Same(New()), true)
	done(t, &zero, at(3, appends("a", api.NoStream, 1)), ok(0, 0))
	equal(t, "Same of zero that goes on", zero.Same(after(at(3, appends("a", api.NoStream, 1)))), true)
	for _, c := range []api.Command{sets("a", 1, 0, 0), deletes("a", api.Any), marks()} {
		var other State
		equal(t, "Do of zero", other.Do(c), New().Do(c))
	}
}

// apartFrom holds that what is done to one state is not seen in another one, on both sides.
func apartFrom(t *testing.T, what string, s, o *State) {
	t.Helper()
	l := []api.Command{at(20, appends("a", 4, 21, 22)), at(21, appends("new", api.Any, 23)), sets("c", 1, 0, 0), sets("a", 0, 5, 0), deletes("c", api.Any), at(30, marks()), appends("a", api.Any, 24), sets("b", 0, 0, 0)}
	m := []api.Command{marks(), at(25, appends("a", 4, 22, 21)), appends("other", api.Any, 23), sets("a", 0, 0, 0), appends("c", 1, 9), sets("c", 0, 0, 1), appends("a", api.Any, 21), deletes("a", api.Any)}
	ps, po := plainSeveral(), plainSeveral()
	for k := range l {
		equal(t, what+": Do of one", s.Do(l[k]), ps.Do(l[k]))
		equal(t, what+": the one", asked(s), asked(ps))
		equal(t, what+": the other one", asked(o), asked(po))
		equal(t, what+": Same", s.Same(o), false)
		equal(t, what+": Do of the other one", o.Do(m[k]), po.Do(m[k]))
		equal(t, what+": the one behind it", asked(s), asked(ps))
		equal(t, what+": the other one behind it", asked(o), asked(po))
	}
	equal(t, what+": pages of one", paged(s), paged(ps))
	equal(t, what+": pages of the other one", paged(o), paged(po))
}

// plainSeveral is several, written down plainly.
func plainSeveral() *plain {
	p := newPlain()
	for position := range 10 {
		e := stored(position)
		p.Do(api.Command{Kind: api.Append, Time: e.Time, Stream: e.Stream, Expected: api.Any, Events: []api.Event{e.Event}})
	}
	p.Do(deletes("b", 2))
	p.Do(sets("a", 3, 0, 0))
	p.done = several().Done()
	return p
}

func TestCopy(t *testing.T) {
	s := several()
	c := s.Copy()
	equal(t, "whether they have one history", s.history == c.history, false)
	equal(t, "Same", s.Same(c) && c.Same(s), true)
	equal(t, "asked", asked(c)+paged(c), asked(s)+paged(s))
	apartFrom(t, "Copy", s, c)
	s = several()
	apartFrom(t, "Copy of a Copy", s.Copy().Copy(), s)
	var zero State
	c = zero.Copy()
	c.Do(marks())
	equal(t, "zero", zero.Done(), 0)
}

// TestCopyAsAValue: one that goes on leaves the other one as it is, whichever.
func TestCopyAsAValue(t *testing.T) {
	s := several()
	c := *s
	equal(t, "Same", s.Same(&c) && c.Same(s), true)
	apartFrom(t, "a value", s, &c)
	s = several()
	c = *s
	apartFrom(t, "a value that goes first", &c, s)

	var zero State
	c = zero
	c.Do(appends("a", api.Any, 1))
	equal(t, "zero", asked(&zero), asked(New()))
	zero.Do(appends("b", api.Any, 2))
	equal(t, "zero that goes on", fmt.Sprint(zero.Streams(), c.Streams()), "[b] [a]")

	s = several()
	old := *s
	for _, command := range []api.Command{appends("new", api.Any, 1, 2, 3), sets("a", 1, 0, 0), sets("newer", 1, 1, 1), deletes("c", api.Any), appends("a", api.Any, 31, 32)} {
		s.Do(command)
	}
	equal(t, "one that fell behind", asked(&old)+paged(&old), asked(plainSeveral())+paged(plainSeveral()))
	c = old
	equal(t, "Copy of it", asked(c.Copy()), asked(plainSeveral()))
	equal(t, "what a Copy of it knows", fmt.Sprint(c.Copy().named()), "[a b c]")
	equal(t, "Same", old.Same(several()) && several().Same(&old) && !old.Same(s) && !s.Same(&old), true)
	// It has not yet done what the other one has.
	done(t, &old, appends("a", 4, 32, 31, 33), ok(5, 12))
	done(t, &old, appends("a", api.Any, 31), again(6, 11))
	done(t, &old, appends("new", api.NoStream, 4), ok(0, 13))
	done(t, &old, appends("new", api.Any, 1), ok(1, 14))
	done(t, &old, deletes("c", 1), ok(2, 15))
	equal(t, "MetaOf", old.MetaOf("newer"), api.Meta{})
	equal(t, "the Floor", old.Floor("a"), 5)
	equal(t, "the other one", fmt.Sprint(s.Count("new"), s.Count("a"), s.Floor("a"), s.Deleted("c")), "3 7 6 true")
}

// TestAnswersAreNewMemory: whoever writes into them turns nothing.
func TestAnswersAreNewMemory(t *testing.T) {
	s := several()
	was := asked(s) + paged(s)
	read, _ := s.Read("a", 2, 2, false)
	back, _ := s.Read("a", 4, 2, true)
	every, _ := s.All(0, most, false)
	for _, l := range [][]api.Stored{s.Every(), read.Events, back.Events, every.Events} {
		for k := range l {
			l[k] = api.Stored{Stream: "turned"}
		}
		_ = append(l[:0:cap(l)], make([]api.Stored, cap(l))...)
	}
	names := s.Streams()
	for k := range names {
		names[k] = "turned"
	}
	equal(t, "the state", asked(s)+paged(s), was)
}

// TestTextsAreNewMemory: those that are kept, and those that are told.
func TestTextsAreNewMemory(t *testing.T) {
	c := appends(long(9), api.Any, 1, 2)
	s := after(c)
	handed := []string{c.Stream, c.Events[0].Type, c.Events[0].Data, c.Events[1].Type, c.Events[1].Data}
	tell := func(s *State) []string {
		read, _ := s.Read(c.Stream, 0, 2, false)
		every, _ := s.All(1, 2, true)
		one, _ := s.At(c.Stream, 1)
		out := s.Streams()
		for _, e := range append(append(append(s.Every(), read.Events...), every.Events...), one) {
			out = append(out, e.Type, e.Data, e.Stream)
		}
		return out
	}
	kept := []string{s.named()[0]}
	for _, e := range s.events() {
		kept = append(kept, e.Type, e.Data, e.Stream)
	}
	one, two := tell(s), tell(s)
	for what, l := range map[string][2][]string{
		"what is kept and what was handed in": {kept, handed},
		"what is told and what was handed in": {one, handed},
		"what is told and what is kept":       {one, kept},
		"two answers":                         {one, two},
		"a copy's and what is kept":           {tell(s.Copy()), kept},
	} {
		for _, text := range l[0] {
			for _, in := range l[1] {
				equal(t, what+": shared", lies(text, in), false)
			}
		}
	}
	for k, text := range one {
		for other, in := range one {
			equal(t, "two of one answer: shared", k != other && lies(text, in), false)
		}
	}
}
