package model

import (
	"fmt"
	"math"
	"slices"
	"strings"
	"testing"
	"unsafe"

	"chronicle/api"
)

const (
	bound    = 1 << 40
	most     = 100 // events of a page
	theNaN   = 0x7ff8000000000000
	otherNaN = 0xfff0000000000001
)

func equal[T comparable](t *testing.T, what string, got, want T) {
	t.Helper()
	if got != want {
		t.Errorf("%s: %.2000s, not %.2000s", what, fmt.Sprintf("%#v", got), fmt.Sprintf("%#v", want))
	}
}

func long(bytes int) string { return strings.Repeat("x", bytes) }

// ev is an event, all its parts hanging on its id.
func ev(id int) api.Event {
	return api.Event{Id: id, Type: fmt.Sprint("type", id%3), Data: fmt.Sprint("data", id), Value: float64(id) / 4}
}

// evs are events of these ids.
func evs(ids ...int) []api.Event {
	var l []api.Event
	for _, id := range ids {
		l = append(l, ev(id))
	}
	return l
}

func appends(stream string, expected int, ids ...int) api.Command {
	return api.Command{Kind: api.Append, Stream: stream, Expected: expected, Events: evs(ids...)}
}

func sets(stream string, count, age, before int) api.Command {
	return api.Command{Kind: api.SetMeta, Stream: stream, Meta: api.Meta{MaxCount: count, MaxAge: age, Before: before}}
}

func deletes(stream string, expected int) api.Command {
	return api.Command{Kind: api.Delete, Stream: stream, Expected: expected}
}

func marks() api.Command { return api.Command{Kind: api.Mark} }

func begins() api.Command { return api.Command{Kind: api.Epoch} }

// at is a command at a time.
func at(time int, c api.Command) api.Command {
	c.Time = time
	return c
}

// after is a state to which commands were done.
func after(l ...api.Command) *State {
	s := New()
	for _, c := range l {
		s.Do(c)
	}
	return s
}

// ok, again, wrong and deleted are answers.
func ok(version, position int) api.Answer { return api.Answer{Version: version, Position: position} }

func again(version, position int) api.Answer {
	return api.Answer{Version: version, Position: position, Again: true}
}

func wrong(last int) api.Answer { return api.Answer{Err: api.ErrWrong, Version: last} }

func deleted() api.Answer { return api.Answer{Err: api.ErrDeleted} }

// done holds what Do must tell of a command.
func done(t *testing.T, s *State, c api.Command, want api.Answer) {
	t.Helper()
	equal(t, fmt.Sprintf("Do of %+v", c), s.Do(c), want)
}

// exact is an event as a text, to the bit.
func exact(s api.Stored) string {
	return fmt.Sprintf("%d %q %q %016x %q %d %d %d", s.Id, s.Type, s.Data, math.Float64bits(s.Value), s.Stream, s.Version, s.Position, s.Time)
}

func all(l []api.Stored) string {
	var out strings.Builder
	for _, s := range l {
		out.WriteString(exact(s) + "\n")
	}
	return out.String()
}

// whole is a page and its error as a text, to the bit.
func whole(p api.Page, e api.Errno) string {
	return fmt.Sprintf("%snext %d, end %t, error %d\n", all(p.Events), p.Next, p.End, e)
}

// refusal is what is told beside an error.
func refusal(e api.Errno) string { return whole(api.Page{}, e) }

// cut is what is told of a page.
func cut(next int, end bool, l ...api.Stored) string {
	return whole(api.Page{Events: l, Next: next, End: end}, api.OK)
}

// found is what is told of an event that is looked for.
func found(s api.Stored, is bool) string { return fmt.Sprintln(exact(s), is) }

// lies says whether a text's bytes are some of another one's.
func lies(s, in string) bool {
	at, from := uintptr(unsafe.Pointer(unsafe.StringData(s))), uintptr(unsafe.Pointer(unsafe.StringData(in)))
	return from <= at && at < from+uintptr(len(in))
}

// asker is what can be asked.
type asker interface {
	Len() int
	Done() int
	Now() int
	Streams() []string
	Count(stream string) int
	Floor(stream string) int
	Deleted(stream string) bool
	MetaOf(stream string) api.Meta
	At(stream string, version int) (api.Stored, bool)
	Read(stream string, from, n int, back bool) (api.Page, api.Errno)
	All(from, n int, back bool) (api.Page, api.Errno)
	Every() []api.Stored
	Seen(position int) bool
}

// names are those of the streams that tests name, and others.
func names() []string {
	return []string{"a", "b", "cart-7", "$ce-cart", "~", "none", "", "a b", "x@a", long(60), long(61)}
}

// asked is all that an asker tells, but for pages, as a text.
func asked(s asker) string {
	out := fmt.Sprintf("%d %d %d %q\n", s.Len(), s.Done(), s.Now(), s.Streams())
	for _, name := range names() {
		out += fmt.Sprintf("%.3q: %d %d %t %v\n", name, s.Count(name), s.Floor(name), s.Deleted(name), s.MetaOf(name))
		for version := -1; version <= s.Count(name); version++ {
			out += found(s.At(name, version))
		}
	}
	for position := -1; position <= s.Len(); position++ {
		out += fmt.Sprint(s.Seen(position), " ")
	}
	return out + "\n" + all(s.Every())
}

// paged is what an asker tells of pages, as a text.
func paged(s asker) string {
	var out strings.Builder
	for _, back := range []bool{false, true} {
		for _, n := range []int{1, 2, 3, 5, most, 0, most + 1, -1, math.MinInt, math.MaxInt} {
			for _, from := range places(s.Len()) {
				out.WriteString(whole(s.All(from, n, back)))
			}
			for _, name := range names() {
				for _, from := range places(s.Count(name)) {
					out.WriteString(whole(s.Read(name, from, n, back)))
				}
			}
		}
	}
	return out.String()
}

// places are those of so many events, and some beside them.
func places(count int) []int {
	l := []int{math.MinInt, math.MaxInt}
	for place := -1; place <= count+1; place++ {
		l = append(l, place)
	}
	return l
}

// plain is all streams as the chapter words them.
type plain struct {
	done, now int
	events    []api.Stored
	metas     map[string]api.Meta
	kept      map[string]int
	gone      map[string]bool
}

func newPlain() *plain {
	return &plain{metas: map[string]api.Meta{}, kept: map[string]int{}, gone: map[string]bool{}}
}

func (p *plain) Len() int { return len(p.events) }

func (p *plain) Done() int { return p.done }

func (p *plain) Now() int { return p.now }

func (p *plain) Every() []api.Stored { return p.events }

func (p *plain) Deleted(stream string) bool { return p.gone[stream] }

func (p *plain) MetaOf(stream string) api.Meta { return p.metas[stream] }

func (p *plain) Count(stream string) int { return len(p.of(stream)) }

func (p *plain) Streams() []string {
	var l []string
	for _, e := range p.events {
		l = append(l, e.Stream)
	}
	slices.Sort(l)
	return slices.Compact(l)
}

func (p *plain) of(stream string) []api.Stored {
	var l []api.Stored
	for _, e := range p.events {
		if e.Stream == stream {
			l = append(l, e)
		}
	}
	return l
}

func (p *plain) Floor(stream string) int {
	m, l := p.metas[stream], p.of(stream)
	floor := max(p.kept[stream], m.Before)
	if m.MaxCount > 0 {
		floor = max(floor, len(l)-m.MaxCount)
	}
	if m.MaxAge > 0 {
		young := 0
		for young < len(l) && l[young].Time <= p.now-m.MaxAge {
			young++
		}
		floor = max(floor, young)
	}
	return min(floor, len(l))
}

func (p *plain) Seen(position int) bool {
	for _, e := range p.events {
		if e.Position == position {
			return !p.gone[e.Stream] && e.Version >= p.Floor(e.Stream)
		}
	}
	return false
}

func (p *plain) seen(l []api.Stored) []api.Stored {
	floors := map[string]int{}
	for _, stream := range p.Streams() {
		floors[stream] = p.Floor(stream)
	}
	return slices.DeleteFunc(slices.Clone(l), func(e api.Stored) bool { return p.gone[e.Stream] || e.Version < floors[e.Stream] })
}

func (p *plain) At(stream string, version int) (api.Stored, bool) {
	if l := p.of(stream); version >= 0 && version < len(l) && p.Seen(l[version].Position) {
		return l[version], true
	}
	return api.Stored{}, false
}

// page cuts a page out of events that rise by a key.
func (p *plain) page(l []api.Stored, from, n int, back bool, key func(api.Stored) int) (api.Page, api.Errno) {
	if from < 0 || n < 1 || n > 100 {
		return api.Page{}, api.ErrArg
	}
	var fit []api.Stored
	for _, e := range l {
		if back && key(e) <= from || !back && key(e) >= from {
			fit = append(fit, e)
		}
	}
	if back {
		slices.Reverse(fit)
	}
	page := api.Page{Events: fit[:min(n, len(fit))], Next: from, End: len(fit) <= n}
	for _, e := range page.Events {
		page.Next = key(e) + 1
		if back {
			page.Next = key(e) - 1
		}
	}
	return page, api.OK
}

func (p *plain) Read(stream string, from, n int, back bool) (api.Page, api.Errno) {
	named := len(stream) >= 1 && len(stream) <= 60
	for _, c := range []byte(stream) {
		named = named && c >= 33 && c <= 126 && c != '@'
	}
	switch {
	case !named || from < 0 || n < 1 || n > 100:
		return api.Page{}, api.ErrArg
	case p.gone[stream]:
		return api.Page{}, api.ErrDeleted
	case p.Count(stream) == 0:
		return api.Page{}, api.ErrNone
	}
	return p.page(p.seen(p.of(stream)), from, n, back, func(e api.Stored) int { return e.Version })
}

func (p *plain) All(from, n int, back bool) (api.Page, api.Errno) {
	return p.page(p.seen(p.events), from, n, back, func(e api.Stored) int { return e.Position })
}

// Do does a command that may be.
func (p *plain) Do(c api.Command) api.Answer {
	p.now = max(p.now, c.Time)
	p.done++
	if c.Kind == api.Mark || c.Kind == api.Epoch {
		return api.Answer{Position: len(p.events)}
	}
	if c.Kind == api.SetMeta {
		p.kept[c.Stream] = p.Floor(c.Stream)
	}
	a := p.names(c)
	p.kept[c.Stream] = p.Floor(c.Stream)
	return a
}

// names does a command that names a stream.
func (p *plain) names(c api.Command) api.Answer {
	l := p.of(c.Stream)
	last := len(l) - 1
	met := c.Expected == api.Any || c.Expected == api.Exists && len(l) > 0 || c.Expected == api.NoStream && len(l) == 0 || c.Expected >= 0 && c.Expected == last
	switch {
	case p.gone[c.Stream]:
		return api.Answer{Err: api.ErrDeleted}
	case c.Kind == api.SetMeta:
		p.metas[c.Stream] = c.Meta
		return api.Answer{Version: len(l), Position: len(p.events)}
	case c.Kind == api.Append && slices.ContainsFunc(l, func(e api.Stored) bool { return e.Id == c.Events[0].Id }):
		return p.again(c, l)
	case !met:
		return api.Answer{Err: api.ErrWrong, Version: last}
	case c.Kind == api.Delete:
		p.gone[c.Stream] = true
		return api.Answer{Version: len(l), Position: len(p.events)}
	}
	for k, e := range c.Events {
		if math.IsNaN(e.Value) {
			e.Value = math.Float64frombits(theNaN)
		}
		p.events = append(p.events, api.Stored{Event: e, Stream: c.Stream, Version: len(l) + k, Position: len(p.events), Time: p.now})
	}
	return api.Answer{Version: len(l), Position: len(p.events) - 1}
}

func (p *plain) again(c api.Command, l []api.Stored) api.Answer {
	v := slices.IndexFunc(l, func(e api.Stored) bool { return e.Id == c.Events[0].Id })
	is := c.Expected == api.Any || c.Expected == api.Exists || c.Expected >= 0 && c.Expected == v-1 || c.Expected == api.NoStream && v == 0
	for k, e := range c.Events {
		is = is && v+k < len(l) && l[v+k].Id == e.Id
	}
	if !is {
		return api.Answer{Err: api.ErrWrong, Version: len(l) - 1}
	}
	return api.Answer{Version: v, Position: l[v+len(c.Events)-1].Position, Again: true}
}
