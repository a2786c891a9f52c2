package chunklog

import (
	"fmt"
	"math/rand"
	"slices"
	"strings"
	"testing"

	"chronicle/api"
	"chronicle/simdisk"
)

// P1106

// plain is a log written down plainly.
type plain struct {
	size   int
	chunks [][]string
	synced int
	mark   int
}

func (p *plain) all() []string { return slices.Concat(p.chunks...) }

func (p *plain) used(k int) int {
	n := 0
	for _, body := range p.chunks[k] {
		n += len(body) + 13
	}
	return n
}

func (p *plain) append(bodies ...string) {
	for _, body := range bodies {
		last := len(p.chunks) - 1
		if last < 0 || len(body) > min(max(p.size-p.used(last)-13, 0), 3999) {
			if last >= 0 {
				p.synced = len(p.all())
			}
			p.chunks, last = append(p.chunks, nil), last+1
		}
		p.chunks[last] = append(slices.Clip(p.chunks[last]), body)
	}
}

func (p *plain) truncate(n int) {
	left := p.chunks
	p.chunks, p.synced = nil, min(p.synced, n)
	for _, bodies := range left {
		if n > 0 {
			p.chunks = append(p.chunks, bodies[:min(n, len(bodies))])
		}
		n -= len(bodies)
	}
}

func (p *plain) rewrite(k int, bodies []string) {
	p.chunks = slices.Clone(p.chunks)
	p.chunks[k] = bodies
}

// holds holds a log against it.
func (p *plain) holds(t *testing.T, what string, d *simdisk.Disk, l *Log) {
	t.Helper()
	has(t, what, l, p.chunks, p.synced)
	equal(t, what+": Marked", l.Marked(), min(p.mark, len(p.all())))
	equal(t, what+": Broken", l.Broken(), false)
	for k := range p.chunks {
		want := filesOf(p.size, p.chunks)[chunkFile("p", k)]
		equal(t, what+": bytes", bytesOf(d, chunkFile("p", k)), want)
	}
}

// step is one call: what it does to a log, what it makes of a plain one, and what of the synced ones may be gone if the power goes meanwhile.
type step struct {
	what  string
	do    func(l *Log) api.Errno
	plain func(p *plain)
	least func(synced int) int
}

func drawn(draw *rand.Rand, most int) string { return long(draw.Intn(most + 1)) }

func someStep(draw *rand.Rand, p *plain) step {
	n := len(p.all())
	none := func(synced int) int { return synced }
	switch kind := draw.Intn(10); {
	case kind < 5:
		var bodies []string
		for range draw.Intn(4) {
			bodies = append(bodies, drawn(draw, 87))
		}
		return step{fmt.Sprintf("Append %d", len(bodies)), func(l *Log) api.Errno {
			_, e := l.Append(bodies...)
			return e
		}, func(p *plain) { p.append(bodies...) }, none}
	case kind < 6:
		return step{"Sync", func(l *Log) api.Errno { return l.Sync() }, func(p *plain) { p.synced = n }, none}
	case kind < 7:
		to := n - min(n, draw.Intn(12))
		return step{fmt.Sprint("Truncate ", to), func(l *Log) api.Errno { return l.Truncate(to) }, func(p *plain) { p.truncate(to) }, func(synced int) int { return min(synced, to) }}
	case kind < 9 && len(p.chunks) > 1:
		k := draw.Intn(len(p.chunks) - 1)
		var bodies []string
		for _, body := range p.chunks[k] {
			bodies = append(bodies, same('z', draw.Intn(len(body)+1)))
		}
		return step{fmt.Sprint("Rewrite ", k), func(l *Log) api.Errno { return l.Rewrite(k, bodies...) }, func(p *plain) { p.rewrite(k, bodies) }, none}
	}
	m := draw.Intn(n + 1)
	return step{fmt.Sprint("Mark ", m), func(l *Log) api.Errno { return l.Mark(m) }, func(p *plain) { p.mark = m }, none}
}

func keeps(draw *rand.Rand) []int {
	var l []int
	for range 30 {
		l = append(l, draw.Intn(3)*draw.Intn(120))
	}
	return l
}

// begins says whether the one list begins the other one.
func begins(l, of []string) bool { return len(l) <= len(of) && slices.Equal(l, of[:len(l)]) }

// again opens a log behind a crash in a step, and holds what of it is there; it is a plain one of that from then on.
func again(t *testing.T, what string, d *simdisk.Disk, s step, was plain) (*Log, *plain) {
	t.Helper()
	d.Restore()
	l := opened(t, d, was.size)
	is := was
	s.plain(&is)
	least := s.least(was.synced)
	got := l.Range(0, l.Len())
	if len(got) < least || !begins(got, was.all()) && !begins(got, is.all()) {
		t.Fatalf("%s: %d records, that is not at least %d first ones of %d or %d", what, len(got), least, len(was.all()), len(is.all()))
	}
	mark := was.mark
	if mark != is.mark && strings.HasSuffix(bytesOf(d, "pmark"), marked(is.mark)) {
		mark = is.mark
	}
	equal(t, what+": Marked", l.Marked(), min(mark, l.Len()))
	equal(t, what+": Synced", l.Synced(), l.Len())
	equal(t, what+": left", len(d.List("pnew")), 0)
	p := &plain{size: was.size, synced: len(got), mark: mark}
	for _, n := range l.Chunks() {
		p.chunks, got = append(p.chunks, slices.Clip(got[:n])), got[n:]
	}
	p.holds(t, what+": opened anew", d, l)
	return l, p
}

// TestWhereverThePowerGoes goes on for long with one log, whose power goes time and again.
func TestWhereverThePowerGoes(t *testing.T) {
	for seed := range int64(60) {
		draw := rand.New(rand.NewSource(seed))
		d := simdisk.New(0)
		l, p := opened(t, d, 100+int(seed)*3), &plain{size: 100 + int(seed)*3}
		crashes := 0
		for k := range 150 {
			if k%60 == 59 {
				equal(t, "Truncate", l.Truncate(0), api.OK)
				p.truncate(0)
			}
			s := someStep(draw, p)
			what := fmt.Sprint("seed ", seed, ", step ", k, ", ", s.what)
			was := *p
			if draw.Intn(4) == 0 {
				d.Arm(draw.Intn(6), keeps(draw)...)
			}
			e := s.do(l)
			d.Arm(-1)
			if e == api.OK && draw.Intn(12) == 0 {
				s.plain(p)
				was, s = *p, step{what: "nothing", plain: func(*plain) {}, least: func(synced int) int { return synced }}
				d.Crash(keeps(draw)...)
				e = api.ErrOff
			}
			if e != api.OK {
				equal(t, what, e, api.ErrOff)
				l, p = again(t, what, d, s, was)
				crashes++
				continue
			}
			s.plain(p)
			p.holds(t, what, d, l)
		}
		if crashes < 10 {
			t.Fatal("the power went only so often: ", crashes)
		}
	}
}

// TestEachStepOfEachCall lets the power go at each step of each call, and lets each number of bytes stay of the last chunk.
func TestEachStepOfEachCall(t *testing.T) {
	bodies := []string{"x", same('y', 80), same('z', 80)}
	appended := step{"Append", func(l *Log) api.Errno {
		_, e := l.Append(bodies...)
		return e
	}, func(p *plain) { p.append(bodies...) }, func(synced int) int { return synced }}
	rewritten := step{"Rewrite", func(l *Log) api.Errno { return l.Rewrite(2, "q", "r") }, func(p *plain) { p.rewrite(2, []string{"q", "r"}) }, func(synced int) int { return synced }}
	truncated := step{"Truncate", func(l *Log) api.Errno { return l.Truncate(2) }, func(p *plain) { p.truncate(2) }, func(synced int) int { return min(synced, 2) }}
	marks := step{"Mark", func(l *Log) api.Errno { return l.Mark(4) }, func(p *plain) { p.mark = 4 }, func(synced int) int { return synced }}
	for _, s := range []step{appended, rewritten, truncated, marks} {
		for n := range 8 {
			for keep := range 150 {
				d := simdisk.New(0)
				l, p := opened(t, d, 100), &plain{size: 100}
				appends(t, l, some()...)
				p.append(some()...)
				equal(t, "Mark", l.Mark(1), api.OK)
				p.mark = 1
				var keeps []int
				for range 10 {
					keeps = append(keeps, keep)
				}
				d.Arm(n, keeps...)
				if s.do(l) == api.OK {
					break
				}
				again(t, fmt.Sprint(s.what, " behind steps ", n, ", keeping ", keep), d, s, *p)
			}
		}
	}
}

// TestRewriteIsAllOrNothing: also with something left from an earlier one.
func TestRewriteIsAllOrNothing(t *testing.T) {
	for n := range 6 {
		for keep := range 120 {
			d := disk(t, filesOf(100, spreadSome()))
			l := opened(t, d, 100)
			equal(t, "Append", d.Append("pnew", doneChunk(0, "left", "left")), api.OK)
			d.Arm(n, 0, 0, 0, 0, keep)
			e := l.Rewrite(0, "", "q")
			equal(t, fmt.Sprint("Rewrite behind steps ", n), e == api.OK, n >= 4)
			d.Arm(-1)
			d.Restore()
			chunks := spreadSome()
			if e == api.OK {
				chunks[0] = []string{"", "q"}
			}
			has(t, fmt.Sprint("behind steps ", n), opened(t, d, 100), chunks, 6)
			holds(t, fmt.Sprint("behind steps ", n), d, filesOf(100, chunks))
		}
	}
}

// TestCopies: what is done to the one is not seen in the other one, but on the disk.
func TestCopies(t *testing.T) {
	d := simdisk.New(0)
	l := opened(t, d, 100)
	appends(t, l, some()...)
	held := *l
	appends(t, l, "g", "h", same('i', 60))
	equal(t, "Rewrite", l.Rewrite(0, "", "x"), api.OK)
	equal(t, "Mark", l.Mark(2), api.OK)
	has(t, "the copy", &held, spreadSome(), 5)
	equal(t, "Marked of the copy", held.Marked(), 0)
	was := *l
	equal(t, "Truncate", l.Truncate(1), api.OK)
	appends(t, l, "new", "newer")
	chunks := append(spreadSome()[:3], []string{same('f', 13), "g", "h"}, []string{same('i', 60)})
	chunks[0] = []string{"", "x"}
	has(t, "another copy", &was, chunks, 8)
	has(t, "the copy", &held, spreadSome(), 5)
	has(t, "itself", l, [][]string{{"", "new", "newer"}}, 1)
	appends(t, &held, "x")
	appends(t, &was, "y")
	has(t, "the copy, gone on with", &held, append(spreadSome()[:3], []string{same('f', 13), "x"}), 5)
	has(t, "another copy, gone on with", &was, append(chunks[:4:4], []string{same('i', 60), "y"}), 8)
	has(t, "itself behind that", l, [][]string{{"", "new", "newer"}}, 1)
}

func TestNoLog(t *testing.T) {
	for what, l := range map[string]*Log{"nil": nil, "zero": {}} {
		for name, call := range errnos() {
			equal(t, what+": "+name, call(l), api.ErrArg)
		}
		equal(t, what+": Len", l.Len(), 0)
		equal(t, what+": Synced", l.Synced(), 0)
		equal(t, what+": Marked", l.Marked(), 0)
		equal(t, what+": Broken", l.Broken(), false)
		equal(t, what+": Chunks", len(l.Chunks()), 0)
		for _, from := range ints() {
			for _, most := range ints() {
				equal(t, what+": Range", len(l.Range(from, most)), 0)
				equal(t, what+": Back", len(l.Back(from, most)), 0)
			}
		}
	}
}
