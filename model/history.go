package model

import (
	"cmp"
	"slices"
	"strings"

	"chronicle/api"
	"chronicle/meta"
	"chronicle/real"
)

// history is what commands came to, one behind the other. It is added to alone, so that the first part of it that a State has stays as it is.
type history struct {
	done   int // how many commands
	events []api.Stored
	lines  map[string]*line
}

// line is what commands came to in one stream.
type line struct {
	places []int       // its events' positions
	times  []int       // their times
	first  map[int]int // by Id the first version that has it
	turns  []turn
}

// turn is what a SetMeta or a Delete makes of a stream.
type turn struct {
	done    int // how many commands were done with it
	meta    api.Meta
	kept    int // the floor so far
	deleted bool
}

// stand is how a stream stands for a State: a first part of its line, and the last turn of that.
type stand struct {
	places, times []int
	first         map[int]int // also of later versions, if another State went on
	turn
}

// add adds an event at its place.
func (h *history) add(e api.Stored) {
	e = fresh(e)
	e.Value = real.Canon(e.Value)
	h.events = append(h.events, e)
	l := h.line(e.Stream)
	l.places, l.times = append(l.places, e.Position), append(l.times, e.Time)
	if _, is := l.first[e.Id]; !is {
		l.first[e.Id] = e.Version
	}
}

// turn turns a stream.
func (h *history) turn(stream string, t turn) {
	l := h.line(stream)
	l.turns = append(l.turns, t)
}

// line is the line of a stream, a new one where there is none.
func (h *history) line(stream string) *line {
	l := h.lines[stream]
	if l == nil {
		l = &line{first: map[int]int{}}
		h.lines[strings.Clone(stream)] = l
	}
	return l
}

// upTo tells how the stream stood behind so many events of all streams, and so many commands.
func (l *line) upTo(count, done int) stand {
	if l == nil {
		return stand{}
	}
	n, _ := slices.BinarySearch(l.places, count)
	st := stand{places: l.places[:n], times: l.times[:n], first: l.first}
	behind, _ := slices.BinarySearchFunc(l.turns, done+1, func(t turn, done int) int { return cmp.Compare(t.done, done) })
	if behind > 0 {
		st.turn = l.turns[behind-1]
	}
	return st
}

// count tells how many events there are.
func (st stand) count() int { return len(st.places) }

// last tells the last version, -1 of none.
func (st stand) last() int { return st.count() - 1 }

// floor tells the first version that is to be seen. Times never fall here, so that those that are too old are found by halves.
func (st stand) floor(now int) int {
	m, kept := st.meta, st.kept
	if m.MaxAge > 0 {
		old, _ := slices.BinarySearch(st.times, now-m.MaxAge+1)
		kept = max(kept, old)
		m.MaxAge = 0
	}
	return meta.Floor(m, kept, now, st.times...)
}

// meets tells whether the stream is as is expected.
func (st stand) meets(expected int) bool {
	switch expected {
	case api.Any:
		return true
	case api.Exists:
		return st.count() > 0
	}
	return expected == st.last() // of no event that is NoStream
}

// wrong tells that it is not.
func (st stand) wrong() api.Answer { return api.Answer{Err: api.ErrWrong, Version: st.last()} }
