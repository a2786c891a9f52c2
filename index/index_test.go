package index

import (
	"fmt"
	"math"
	"math/rand"
	"slices"
	"testing"

	"chronicle/api"
	"chronicle/memtab"
)

// P1401: New, Add.

func TestTheExample(t *testing.T) {
	x := New(2, 2)
	for k := range 8 {
		equal(t, "Add", x.Add(e(1, k, k)), 1)
	}
	stands(t, "eight entries", x, 0, 0, 0, 1)
}

func TestNewHasNothing(t *testing.T) {
	x := New(3, 3)
	stands(t, "a new one", x, 0)
	held(t, "a new one", x, nil, few())
	equal(t, "Flush", x.Flush(), false)
	equal(t, "Merge", x.Merge(), false)
	equal(t, "Cut", x.Cut(math.MinInt), 0)
	stands(t, "a new one still", x, 0)
}

func TestAddFlushesWhatHasNoRoom(t *testing.T) {
	for room := 1; room < 6; room++ {
		for most := 2; most < 6; most++ {
			what := fmt.Sprint("room ", room, ", most ", most)
			one, all, p := New(room, most), New(room, most), &plain{room: room, most: most}
			for k, entry := range some(100) {
				equal(t, what+": Add", one.Add(entry), 1)
				p.add(entry)
				same(t, fmt.Sprint(what, ", ", k+1, " entries"), one, p)
			}
			equal(t, what+": Add of all", all.Add(some(100)...), 100)
			same(t, what+", all at once", all, p)
			held(t, what, one, sorted(some(100)), few())
			equal(t, what+": Add again", one.Add(some(100)...), 0)
			same(t, what+", again", one, p)
		}
	}
}

func TestRoomAndMostBelowTheLeast(t *testing.T) {
	for _, low := range []int{math.MinInt, -2, -1, 0, 1} {
		for _, few := range []int{math.MinInt, -1, 0, 1, 2} {
			what := fmt.Sprint("New of ", low, " and ", few)
			x, p := New(low, few), &plain{room: 1, most: 2}
			y := (&plain{room: low, most: few}).loaded(t)
			for k, entry := range some(9) {
				p.add(entry)
				x.Add(entry)
				y.Add(entry)
				same(t, fmt.Sprint(what, ", ", k+1, " entries"), x, p)
				same(t, fmt.Sprint(what, ", loaded, ", k+1, " entries"), y, p)
			}
		}
	}
}

func TestTheGreatestRoomAndMost(t *testing.T) {
	x := New(math.MaxInt, math.MaxInt)
	equal(t, "Add", x.Add(some(1000)...), 1000)
	stands(t, "the greatest room", x, 1000)
	x = New(1, math.MaxInt)
	equal(t, "Add", x.Add(some(500)...), 500)
	stands(t, "the greatest most", x, 0, 500)
	held(t, "the greatest most", x, sorted(some(500)), few())
}

func TestAddTellsHowMany(t *testing.T) {
	x := New(2, 3)
	equal(t, "Add of none", x.Add(), 0)
	equal(t, "Add of one twice", x.Add(e(5, 1, 7), e(5, 1, 7)), 1)
	stands(t, "one of two", x, 1)
	equal(t, "Add of what is in memory", x.Add(e(5, 1, 7)), 0)
	equal(t, "Add up to the room", x.Add(e(5, 1, 8)), 1)
	stands(t, "two of two", x, 0, 1)
	equal(t, "Add of what is in a table", x.Add(e(5, 1, 8), e(5, 1, 7)), 0)
	equal(t, "Add of some that are there", x.Add(e(5, 1, 7), e(5, 1, 6), e(5, 1, 8), e(4, 1, 7), e(5, 2, 7), e(5, 1, 6)), 3)
	stands(t, "behind them", x, 1, 2)
	equal(t, "Add in one call of what was flushed in it", x.Add(e(6, 0, 0), e(6, 0, 0), e(5, 2, 7)), 1)
	stands(t, "a level more", x, 0, 0, 1)
	equal(t, "Add of what is in another level", x.Add(e(6, 0, 0), e(5, 1, 6), e(5, 1, 7), e(5, 1, 8), e(4, 1, 7), e(5, 2, 7)), 0)
	held(t, "all", x, []memtab.Entry{e(4, 1, 7), e(5, 1, 6), e(5, 1, 7), e(5, 1, 8), e(5, 2, 7), e(6, 0, 0)}, few())
}

func TestAddTakesNothingBelowNought(t *testing.T) {
	x := New(2, 2)
	for _, bad := range []int{math.MinInt, -most, -1} {
		equal(t, "Add of what is below 0", x.Add(e(bad, 0, 0), e(0, bad, 0), e(0, 0, bad), e(bad, bad, bad)), 0)
	}
	stands(t, "nothing", x, 0)
	equal(t, "Add of it among others", x.Add(e(-1, 0, 0), e(0, 0, 0), e(0, -1, 0), e(1, 0, 0), e(0, 0, -1), e(2, 0, 0)), 3)
	stands(t, "the others", x, 1, 1)
	held(t, "the others", x, []memtab.Entry{e(0, 0, 0), e(1, 0, 0), e(2, 0, 0)}, few())
}

func TestNumbersAtTheEnds(t *testing.T) {
	ends := []int{math.MinInt, -1, 0, 1, most - 1, most, most + 1, math.MaxInt - 1, math.MaxInt}
	var l []memtab.Entry
	for _, hash := range ends[2:] {
		for _, version := range ends[2:] {
			l = append(l, e(hash, version, math.MaxInt), e(hash, version, 0), e(hash, version, most+1))
		}
	}
	for room := 1; room <= len(l)+1; room += 14 {
		x := New(room, 3)
		what := fmt.Sprint("the greatest numbers, room ", room)
		equal(t, what+": Add", x.Add(l...), len(l))
		equal(t, what+": Add again", x.Add(l...), 0)
		held(t, what, x, sorted(l), ends)
		x.Merge()
		held(t, what+", merged", x, sorted(l), ends)
		equal(t, what+": Add behind Merge", x.Add(l...), 0)
		equal(t, what+": Cut", x.Cut(math.MaxInt), len(l)/3)
		held(t, what+", cut", x, sorted(only(l, func(entry memtab.Entry) bool { return entry.Pos < math.MaxInt })), ends)
	}
}

// What was loaded may have more in memory than there is room for: it is flushed with the next one that comes in.
func TestAddToMemoryThatIsOverfull(t *testing.T) {
	p := &plain{room: 2, most: 5, mem: some(5)}
	x := p.loaded(t)
	equal(t, "Add of none", x.Add(), 0)
	equal(t, "Add of what is there", x.Add(some(5)...), 0)
	equal(t, "Add of what can't be", x.Add(e(-1, 0, 0)), 0)
	same(t, "when nothing came", x, p)
	equal(t, "Add", x.Add(e(9, 9, 9)), 1)
	p.add(e(9, 9, 9))
	same(t, "when one came", x, p)
	stands(t, "when one came", x, 0, 1)
}

// P1401: Flush.

func TestFlush(t *testing.T) {
	x, p := New(10, 3), &plain{room: 10, most: 3}
	for k := range 30 {
		entry := e(1, k, k)
		x.Add(entry)
		p.add(entry)
		what := fmt.Sprint("Flush ", k)
		equal(t, what, x.Flush(), true)
		p.flush()
		same(t, what, x, p)
		equal(t, what+" of nothing", x.Flush(), false)
		same(t, what+" of nothing", x, p)
	}
	stands(t, "30 tables of one", x, 0, 0, 1, 0, 1)
}

func TestTheNewestTableIsTheLastOne(t *testing.T) {
	x := New(1, 3)
	x.Add(e(9, 0, 0), e(5, 0, 1))
	saves(t, "of memory", x, sealed("\x01\x02"+tableOf(e(9, 0, 0))+tableOf(e(5, 0, 1))+tableOf()))
	x.Add(e(7, 0, 2), e(3, 0, 3), e(2, 0, 4), e(1, 0, 5), e(0, 0, 6))
	saves(t, "of a level", x, sealed("\x02\x01"+tableOf(e(0, 0, 6))+
		"\x02"+tableOf(e(5, 0, 1), e(7, 0, 2), e(9, 0, 0))+tableOf(e(1, 0, 5), e(2, 0, 4), e(3, 0, 3))+tableOf()))
}

// One that was loaded may have more tables in any level than there may be: each such level becomes one table, up to the last one.
func TestFlushAsksEachLevel(t *testing.T) {
	for mask := range 256 {
		p := &plain{room: 100, most: 2 + mask%3, mem: []memtab.Entry{e(8, 8, 8)}}
		pos := 100
		for k := range 4 {
			for range mask >> (2 * k) & 3 {
				p.push(k, []memtab.Entry{e(k, pos%5, pos), e(7, k, pos)})
				pos++
			}
		}
		p.cut(math.MaxInt) // no level behind the last one that has some
		x := p.loaded(t)
		what := fmt.Sprint(p.counts(), " with at most ", p.most)
		equal(t, what+": Flush", x.Flush(), true)
		p.flush()
		same(t, what, x, p)
		for range 5 {
			pos++
			x.Add(e(1, 1, pos))
			p.add(e(1, 1, pos))
			x.Flush()
			p.flush()
			same(t, what+" and on", x, p)
		}
	}
}

func TestFlushOfNothingLeavesTheLevels(t *testing.T) {
	p := &plain{room: 1, most: 2}
	for k := range 5 {
		p.push(k%2, []memtab.Entry{e(k, k, k)})
	}
	x := p.loaded(t)
	equal(t, "Flush", x.Flush(), false)
	same(t, "too many tables", x, p)
}

// P1401: Merge.

func TestMerge(t *testing.T) {
	for _, x := range []struct {
		mem    int
		levels []int
		want   bool
	}{
		{0, nil, false}, {0, []int{1}, false}, {0, []int{0, 1}, false}, {0, []int{0, 0, 0, 1}, false},
		{1, nil, true}, {7, nil, true}, {1, []int{1}, true}, {2, []int{0, 0, 1}, true},
		{0, []int{2}, true}, {0, []int{1, 1}, true}, {0, []int{1, 0, 0, 1}, true}, {0, []int{0, 0, 3}, true}, {3, []int{4, 2, 0, 1}, true},
	} {
		what := fmt.Sprint("Merge of ", x.levels, " and ", x.mem, " in memory")
		all := some(100)
		p := &plain{room: 10, most: 5, mem: all[:x.mem]}
		for k, n := range x.levels {
			for range n {
				all = all[7:]
				p.push(k, all[:7])
			}
		}
		index, want := p.loaded(t), p.all()
		held(t, what+", ahead", index, want, few())
		equal(t, what, index.Merge(), x.want)
		equal(t, what+", as it should be", p.merge(), x.want)
		same(t, what, index, p)
		held(t, what, index, want, few())
		if x.want {
			stands(t, what, index, 0, 1)
		}
		equal(t, what+" again", index.Merge(), false)
		same(t, what+" again", index, p)
	}
}

func TestMergeThenOn(t *testing.T) {
	x, p := New(2, 2), &plain{room: 2, most: 2}
	for k, entry := range some(60) {
		x.Add(entry)
		p.add(entry)
		if k%7 == 0 {
			equal(t, "Merge", x.Merge(), p.merge())
		}
		same(t, fmt.Sprint(k, " entries"), x, p)
	}
}

// P1402: Find, Range, Last, Len.

func TestAnswersAreThoseOfATab(t *testing.T) {
	numbers := few()
	for n := range 60 {
		tab := memtab.New()
		x := New(3, 2)
		equal(t, "Add", x.Add(some(n)...), tab.Add(some(n)...))
		what := fmt.Sprint(n, " entries")
		equal(t, what+": Len", x.Len(), tab.Len())
		for _, hash := range numbers {
			for _, version := range numbers {
				alike(t, what+": Find", x.Find(hash, version), tab.Find(hash, version))
				alike(t, what+": Range", x.Range(hash, version, 5), tab.Range(hash, version, 5))
			}
			got, is := x.Last(hash)
			want, was := tab.Last(hash)
			equal(t, what+": Last", got, want)
			equal(t, what+": whether there is one", is, was)
		}
	}
}

func TestTheLastOneMayStandAnywhere(t *testing.T) {
	// The last one of the hash 4 stands in a table of each level, or in memory, while the others have some of it as well.
	l := []memtab.Entry{e(4, 0, 1), e(4, 0, 2), e(4, 1, 0), e(4, 1, 3)}
	for turn := range 4 {
		p := &plain{room: 9, most: 9}
		for k := range 3 {
			p.push(k, []memtab.Entry{l[(k+turn)%4], e(3, 9, 9+k), e(5, 9, 9+k)})
		}
		p.mem = []memtab.Entry{l[(3+turn)%4], e(3, 9, 12), e(5, 9, 12)}
		what := fmt.Sprint("turned by ", turn)
		x := p.loaded(t)
		held(t, what, x, p.all(), few())
		last, is := x.Last(4)
		equal(t, what+": Last", last, e(4, 1, 3))
		equal(t, what+": whether there is one", is, true)
		alike(t, what+": Range", x.Range(4, 0, 2), l)
		alike(t, what+": Find", x.Find(4, 1), []int{0, 3})
	}
}

func TestRangeThatHasNothing(t *testing.T) {
	x := New(4, 2)
	x.Add(some(90)...)
	for _, bounds := range [][2]int{{3, 3}, {3, 2}, {5, 0}, {math.MaxInt, math.MinInt}, {0, math.MinInt}, {math.MinInt, math.MinInt}, {math.MaxInt, math.MaxInt}, {math.MinInt, 0}, {7, math.MaxInt}} {
		alike(t, fmt.Sprint("Range of ", bounds), x.Range(2, bounds[0], bounds[1]), nil)
	}
	of := sorted(only(some(90), func(entry memtab.Entry) bool { return entry.Hash == 2 }))
	alike(t, "Range without bounds", x.Range(2, math.MinInt, math.MaxInt), of)
}

// P1402: Cut, Mem, Levels.

func TestCut(t *testing.T) {
	for n := range 40 {
		for pos := -1; pos < 42; pos++ {
			what := fmt.Sprint(n, " entries, Cut of ", pos)
			x, p := New(3, 2), &plain{room: 3, most: 2}
			for k := range n {
				entry := e(k%4, k%5, k*17%41)
				x.Add(entry)
				p.add(entry)
			}
			equal(t, what, x.Cut(pos), p.cut(pos))
			same(t, what, x, p)
			equal(t, what+" again", x.Cut(pos), 0)
			same(t, what+" again", x, p)
			equal(t, what+": Add", x.Add(e(0, 0, 50), e(0, 0, 0)), p.add(e(0, 0, 50), e(0, 0, 0)))
			same(t, what+" and on", x, p)
		}
	}
}

func TestCutLetsTablesGo(t *testing.T) {
	p := &plain{room: 9, most: 9, mem: []memtab.Entry{e(1, 1, 3), e(1, 1, 8)}}
	p.push(0, []memtab.Entry{e(2, 0, 0)})
	p.push(0, []memtab.Entry{e(2, 1, 9)})
	p.push(0, []memtab.Entry{e(2, 2, 7), e(2, 3, 1)})
	p.push(1, []memtab.Entry{e(3, 0, 6)})
	p.push(2, []memtab.Entry{e(4, 0, 2)})
	p.push(3, []memtab.Entry{e(5, 0, 5), e(5, 1, 4)})
	x := p.loaded(t)
	stands(t, "ahead", x, 2, 3, 1, 1, 1)
	for _, cut := range []struct {
		pos, gone, mem int
		levels         []int
	}{
		{10, 0, 2, []int{3, 1, 1, 1}}, {9, 1, 2, []int{2, 1, 1, 1}}, {8, 1, 1, []int{2, 1, 1, 1}}, {7, 1, 1, []int{2, 1, 1, 1}},
		{6, 1, 1, []int{2, 0, 1, 1}}, {4, 2, 1, []int{2, 0, 1}}, {3, 1, 0, []int{2, 0, 1}}, {2, 1, 0, []int{2}}, {1, 1, 0, []int{1}},
		{0, 1, 0, nil}, {0, 0, 0, nil},
	} {
		what := fmt.Sprint("Cut of ", cut.pos)
		equal(t, what, x.Cut(cut.pos), cut.gone)
		stands(t, what, x, cut.mem, cut.levels...)
		p.cut(cut.pos)
		same(t, what, x, p)
		held(t, what, x, p.all(), few())
	}
	equal(t, "Flush of nothing", x.Flush(), false)
	equal(t, "Add", x.Add(e(2, 0, 0)), 1)
	held(t, "what was cut and comes again", x, []memtab.Entry{e(2, 0, 0)}, few())
}

func TestCutAtTheEnds(t *testing.T) {
	for _, pos := range []int{math.MinInt, -1, 0} {
		x := New(4, 3)
		x.Add(some(50)...)
		equal(t, fmt.Sprint("Cut of ", pos), x.Cut(pos), 50)
		stands(t, fmt.Sprint("Cut of ", pos), x, 0)
	}
	x := New(4, 3)
	x.Add(some(50)...)
	equal(t, "Cut of the greatest place", x.Cut(math.MaxInt), 0)
	held(t, "Cut of the greatest place", x, sorted(some(50)), few())
}

// P1404 (W3): flushing and merging change no answer; nor does what is saved and loaded.

func TestFlushingAndMergingChangeNoAnswer(t *testing.T) {
	for n := range 40 {
		for room := 1; room < 5; room++ {
			x := New(room*3, 2+room%3)
			equal(t, "Add", x.Add(some(n)...), n)
			what := fmt.Sprint(n, " entries, room ", room*3)
			want := sorted(some(n))
			held(t, what, x, want, few())
			x.Flush()
			held(t, what+", flushed", x, want, few())
			b, _ := x.Save()
			y, err := Load(b, room, 2)
			equal(t, what+": Load", err, api.OK)
			held(t, what+", loaded", y, want, few())
			x.Merge()
			held(t, what+", merged", x, want, few())
			y.Merge()
			held(t, what+", loaded and merged", y, want, few())
			equal(t, what+": Add again", x.Add(some(n)...), 0)
			equal(t, what+": Add again to what was loaded", y.Add(some(n)...), 0)
		}
	}
}

func TestAgainstAPlainOne(t *testing.T) {
	for seed := range 60 {
		r := rand.New(rand.NewSource(int64(seed)))
		p := &plain{room: 1 + r.Intn(7), most: 2 + r.Intn(4)}
		x := New(p.room, p.most)
		for step := range 80 {
			what := fmt.Sprint("seed ", seed, ", step ", step)
			switch r.Intn(16) {
			case 0:
				pos := r.Intn(60) - 2
				equal(t, what+": Cut", x.Cut(pos), p.cut(pos))
			case 1:
				equal(t, what+": Merge", x.Merge(), p.merge())
			case 2:
				equal(t, what+": Flush", x.Flush(), p.flush())
			case 3:
				p.room, p.most = 1+r.Intn(7), 2+r.Intn(4)
				x = p.loaded(t)
			default:
				var more []memtab.Entry
				for range r.Intn(6) {
					more = append(more, e(r.Intn(6)-1, r.Intn(8)-1, r.Intn(50)-1))
				}
				equal(t, what+": Add", x.Add(more...), p.add(more...))
			}
			same(t, what, x, p)
			if step%20 == 19 {
				held(t, what, x, p.all(), few())
			}
		}
	}
}

// P1404: a nil Index has nothing, and takes nothing; a zero one neither (rule 7).

func TestNilAndZeroIndex(t *testing.T) {
	for what, x := range map[string]*Index{"a nil Index": nil, "a zero Index": {}} {
		for range 2 {
			held(t, what, x, nil, few())
			stands(t, what, x, 0)
			equal(t, what+": Add", x.Add(e(1, 1, 1), e(2, 2, 2)), 0)
			equal(t, what+": Add of none", x.Add(), 0)
			equal(t, what+": Flush", x.Flush(), false)
			equal(t, what+": Merge", x.Merge(), false)
			equal(t, what+": Cut", x.Cut(0), 0)
			saveFails(t, what, x, api.ErrArg)
		}
	}
}

// Rule 2: answers are new, and nothing that was handed in is kept or turned.

func TestAnswersAreNew(t *testing.T) {
	for what, room := range map[string]int{"in memory": 100, "in tables": 3, "in tables of one": 1} {
		handed := some(60)
		x := New(room, 4)
		x.Add(handed...)
		alike(t, what+": what was handed in", handed, some(60))
		clear(handed)
		want := sorted(some(60))
		held(t, what+", when what was handed in is turned", x, want, few())
		levels, found, places := x.Levels(), x.Range(2, 0, 9), x.Find(2, 3)
		keptLevels, keptFound, keptPlaces := slices.Clone(levels), slices.Clone(found), slices.Clone(places)
		clear(x.Levels())
		clear(x.Range(2, 0, 9))
		clear(x.Find(2, 3))
		_ = append(x.Range(2, 0, 1), e(9, 9, 9))
		alike(t, what+": Levels of before", levels, keptLevels)
		alike(t, what+": Range of before", found, keptFound)
		alike(t, what+": Find of before", places, keptPlaces)
		held(t, what+", when answers are turned", x, want, few())
		x.Merge()
		x.Cut(10)
		alike(t, what+": Range of before Cut", found, keptFound)
	}
	// One table that has all: what it has is not handed out.
	x := New(100, 2)
	x.Add(some(30)...)
	x.Merge()
	clear(x.Range(0, 0, 9))
	_ = append(x.Range(0, 0, 2), e(9, 9, 9))
	held(t, "one table", x, sorted(some(30)), few())
}

// Rule 4: copies stay apart.

func TestCopiesStayApart(t *testing.T) {
	for seed := range 40 {
		r := rand.New(rand.NewSource(int64(seed)))
		p := &plain{room: 1 + r.Intn(3), most: 2 + r.Intn(6)}
		x := New(p.room, p.most)
		for _, entry := range some(r.Intn(60)) {
			x.Add(entry)
			p.add(entry)
		}
		y, q := *x, *p
		// A level of a plain one is a slice of its own.
		q.levels = slices.Clone(p.levels)
		for k := range q.levels {
			q.levels[k] = slices.Clone(p.levels[k])
		}
		q.mem = slices.Clone(p.mem)
		for step := range 30 {
			what := fmt.Sprint("seed ", seed, ", step ", step)
			one, other := x, p
			if r.Intn(2) == 0 {
				one, other = &y, &q
			}
			switch r.Intn(9) {
			case 0:
				pos := r.Intn(2000)
				equal(t, what+": Cut", one.Cut(pos), other.cut(pos))
			case 1:
				equal(t, what+": Merge", one.Merge(), other.merge())
			case 2:
				equal(t, what+": Flush", one.Flush(), other.flush())
			default:
				entry := e(7+step, r.Intn(3), 1000+r.Intn(1000))
				equal(t, what+": Add", one.Add(entry), other.add(entry))
			}
			same(t, what+", the one", x, p)
			same(t, what+", the copy", &y, &q)
		}
	}
}
