package index

import (
	"fmt"
	"math"
	"strings"
	"testing"

	"chronicle/api"
	"chronicle/memtab"
)

// spoilt holds that Load tells an error of b, and no index beside it.
func spoilt(t *testing.T, what, b string, want api.Errno) {
	t.Helper()
	x, err := Load(b, 2, 2)
	equal(t, what+": Load's error", err, want)
	if x != nil {
		t.Errorf("%s: an index beside the error", what)
	}
}

// rising has so many entries in order, from a place on.
func rising(n, from int) []memtab.Entry {
	var l []memtab.Entry
	for k := range n {
		l = append(l, e(k%61, k, from+k))
	}
	return sorted(l)
}

// P1403: Save.

func TestSaveLaysEachByte(t *testing.T) {
	const none = "\x00\x00\x00\x0c"
	empty := sealed("PTAB\x00\x00\x00\x00")
	saves(t, "of nothing", New(1, 2), sealed("\x00"+none+empty))
	one := "\x00\x00\x00\x24" + sealed("PTAB\x00\x00\x00\x01"+
		"\x00\x00\x00\x00\x00\x00\x00\x01"+"\x00\x00\x00\x00\x00\x00\x01\x02"+"\x00\x00\x01\x00\x00\x00\x00\x00")
	other := "\x00\x00\x00\x24" + sealed("PTAB\x00\x00\x00\x01"+
		"\x00\x00\x00\x00\x00\x00\x00\x00"+"\x00\x00\x00\x00\x00\x00\x00\x07"+"\x00\x00\x00\x00\x00\x00\x00\x09")
	x := New(9, 2)
	x.Add(e(1, 258, most))
	saves(t, "of one in memory", x, sealed("\x00"+one))
	x.Flush()
	saves(t, "of one in a table", x, sealed("\x01\x01"+one+none+empty))
	x.Add(e(0, 7, 9))
	saves(t, "of one in a table and one in memory", x, sealed("\x01\x01"+one+other))
	x.Flush()
	x.Cut(most)
	saves(t, "of one in the second level", x, sealed("\x02\x00\x01"+other+none+empty))
	y := New(1, 3)
	y.Add(e(1, 258, most), e(0, 7, 9))
	saves(t, "of two tables", y, sealed("\x01\x02"+one+other+none+empty))
}

func TestSaveOfTheGreatestNumbers(t *testing.T) {
	for _, l := range [][]memtab.Entry{{e(most, 0, 0)}, {e(0, most, 0)}, {e(0, 0, most)}, {e(most, most, most)}} {
		x := New(1, 2)
		x.Add(l...)
		saves(t, fmt.Sprint(l), x, sealed("\x01\x01"+tableOf(l...)+tableOf()))
	}
}

func TestSaveOfNumbersThatAreTooGreat(t *testing.T) {
	for _, great := range []int{most + 1, 1 << 41, math.MaxInt} {
		for what, wrong := range map[string]memtab.Entry{"Hash": e(great, 0, 0), "Version": e(0, great, 0), "Pos": e(0, 0, great)} {
			what = fmt.Sprint("a ", what, " of ", great)
			x := New(3, 3)
			equal(t, what+": Add", x.Add(wrong), 1)
			saveFails(t, what+" in memory", x, api.ErrArg)
			x.Add(e(1, 1, 1))
			saveFails(t, what+" in memory, among others", x, api.ErrArg)
			x.Add(e(1, 1, 2))
			stands(t, what+" in a table", x, 0, 1)
			saveFails(t, what+" in a table", x, api.ErrArg)
			x.Add(some(10)...)
			saveFails(t, what+" in a table among others", x, api.ErrArg)
			stands(t, what+": what Save leaves", x, 1, 1, 1)
			alike(t, what+": Find", x.Find(wrong.Hash, wrong.Version), placesOf(wrong))
		}
	}
}

// placesOf has where a version of one entry, and of those that stand beside it in the test above, is.
func placesOf(wrong memtab.Entry) []int {
	var places []int
	for _, entry := range sorted(append(some(10), wrong)) {
		if entry.Hash == wrong.Hash && entry.Version == wrong.Version {
			places = append(places, entry.Pos)
		}
	}
	return places
}

func TestSaveTellsWhatIsTooLong(t *testing.T) {
	// An empty one has 21 bytes, and each entry 24 more.
	x := New(math.MaxInt, 2)
	x.Add(rising(2499, 0)...)
	b, err := x.Save()
	equal(t, "error of 2499", err, api.OK)
	equal(t, "bytes of 2499", len(b), 59997)
	p := &plain{mem: rising(2499, 0)}
	same(t, "2499 in memory, loaded", p.loaded(t), p)
	p = &plain{levels: [][][]memtab.Entry{{rising(2498, 0)}}}
	same(t, "2498 in a table, loaded", p.loaded(t), p)
	x.Add(e(61, 0, 0))
	saveFails(t, "2500 in memory", x, api.ErrLong)
	x.Merge()
	saveFails(t, "2500 in a table", x, api.ErrLong)
	x.Cut(2400)
	same(t, "2401 in a table", x, &plain{levels: [][][]memtab.Entry{{sorted(append(rising(2400, 0), e(61, 0, 0)))}}})
	x.Add(rising(400, 3000)...)
	saveFails(t, "2801", x, api.ErrLong)
	// More than a text may have, and more than all may have.
	y := New(1, 2)
	y.Add(rising(40000, 0)...)
	saveFails(t, "40000", y, api.ErrLong)
	y.Merge()
	saveFails(t, "40000 in a table", y, api.ErrLong)
}

// atMost has three levels, three tables, and 2497 entries: just 60,000 bytes. With a level more in between it has one more.
func atMost(level int) *plain {
	p := &plain{room: 5000, most: 9}
	p.push(0, rising(1000, 0))
	p.push(1, rising(1000, 1000))
	p.push(level, []memtab.Entry{e(1, 1, 5000)})
	p.mem = rising(496, 2000)
	return p
}

func TestSaveAtTheMostBytes(t *testing.T) {
	p := atMost(2)
	equal(t, "bytes", len(p.bytes()), 60000)
	same(t, "at the most", p.loaded(t), p)
	x := p.loaded(t)
	x.Add(e(2, 2, 5001))
	saveFails(t, "an entry more", x, api.ErrLong)
	equal(t, "bytes with a level more", len(atMost(3).bytes()), 60001)
	spoilt(t, "a byte more", atMost(3).bytes(), api.ErrForm)
	q := atMost(3)
	q.mem = q.mem[:495]
	x = q.loaded(t)
	equal(t, "Add", x.Add(atMost(3).mem...), 1)
	saveFails(t, "a byte more", x, api.ErrLong)
	equal(t, "Cut", x.Cut(5000), 1)
	same(t, "a table less", x, &plain{levels: atMost(3).levels[:2], mem: atMost(3).mem})
}

func TestSaveOfTooManyTables(t *testing.T) {
	for level := range 3 {
		p := &plain{room: 9, most: 1000}
		for k := range 255 {
			p.push(level, []memtab.Entry{e(k%7, 0, k)})
		}
		x := p.loaded(t)
		same(t, fmt.Sprint("255 tables of the level ", level), x, p)
	}
	p := &plain{room: 9, most: 1000}
	for k := range 255 {
		p.push(0, []memtab.Entry{e(k%7, 0, k)})
	}
	x := p.loaded(t)
	x.Add(e(9, 9, 9))
	p.add(e(9, 9, 9))
	same(t, "255 tables and one in memory", x, p)
	x.Flush()
	stands(t, "a table more", x, 0, 256)
	saveFails(t, "256 tables", x, api.ErrLong)
	x.Cut(254)
	stands(t, "254 tables", x, 0, 255)
	p.flush()
	p.cut(254)
	same(t, "255 tables again", x, p)
	y := New(1, 1000)
	y.Add(rising(300, 0)...)
	saveFails(t, "300 tables", y, api.ErrLong)
	z := &plain{room: 1, most: 300}
	for k := range 255 {
		z.push(0, []memtab.Entry{e(0, 0, k)})
		z.push(1, []memtab.Entry{e(1, 0, k)})
	}
	x = z.loaded(t)
	x.Add(rising(44, 1000)...)
	x.Cut(1040)
	stands(t, "in the second level at the most", x, 0, 295, 255)
	x.Add(rising(5, 2000)...)
	stands(t, "in the second level", x, 0, 0, 256)
	saveFails(t, "256 tables in the second level", x, api.ErrLong)
}

func TestSaveOfTooManyLevels(t *testing.T) {
	p := &plain{room: 9, most: 2}
	for k := range 255 {
		p.push(k, []memtab.Entry{e(k%7, 0, k)})
	}
	x := p.loaded(t)
	same(t, "255 levels", x, p)
	x.Add(e(9, 9, 9))
	x.Flush()
	levels := x.Levels()
	equal(t, "levels", len(levels), 256)
	equal(t, "tables of the last one", levels[255], 1)
	equal(t, "Len", x.Len(), 256)
	saveFails(t, "256 levels", x, api.ErrLong)
	equal(t, "Merge of one table", x.Merge(), false)
	saveFails(t, "256 levels still", x, api.ErrLong)
	x.Add(e(9, 9, 10))
	equal(t, "Merge", x.Merge(), true)
	same(t, "merged", x, &plain{levels: [][][]memtab.Entry{{append(p.all(), e(9, 9, 9), e(9, 9, 10))}}})
	one := &plain{room: 1, most: 2}
	one.push(254, []memtab.Entry{e(1, 1, 1)})
	same(t, "one table in the level 254", one.loaded(t), one)
}

// The chapter names ErrLong ahead of what ptable.Build tells.
func TestSaveTellsTheLengthFirst(t *testing.T) {
	far := e(most+1, 0, 0)
	x := New(math.MaxInt, 2)
	x.Add(append(rising(2499, 0), far)...)
	saveFails(t, "too long and too great", x, api.ErrLong)
	x.Merge()
	saveFails(t, "too long and too great in a table", x, api.ErrLong)
	y := New(1, 1000)
	y.Add(far)
	y.Add(rising(255, 0)...)
	saveFails(t, "too many tables and too great", y, api.ErrLong)
	y.Cut(254)
	saveFails(t, "too great alone", y, api.ErrArg)
}

// P1403: Load.

func TestLoadOfSave(t *testing.T) {
	for n := range 80 {
		for room := 1; room < 5; room++ {
			x, p := New(room, 3), &plain{room: room, most: 3}
			x.Add(some(n)...)
			p.add(some(n)...)
			what := fmt.Sprint(n, " entries, room ", room)
			b, err := x.Save()
			equal(t, what+": Save's error", err, api.OK)
			y, err := Load(b, room, 3)
			equal(t, what+": Load's error", err, api.OK)
			same(t, what+", loaded", y, p)
			held(t, what+", loaded", y, p.all(), few())
			more := append(some(100), e(8, 8, 8))
			equal(t, what+": Add", y.Add(more...), p.add(more...))
			same(t, what+", and on", y, p)
			same(t, what+", the one that was saved", x, &plain{mem: x.mem.All(), levels: plainLevels(x)})
			stands(t, what+", the one that was saved", x, n%room, x.Levels()...)
		}
	}
}

// plainLevels has an index's tables as a plain one has them.
func plainLevels(x *Index) [][][]memtab.Entry {
	var levels [][][]memtab.Entry
	for _, level := range x.levels {
		var tables [][]memtab.Entry
		for _, t := range level {
			tables = append(tables, t)
		}
		levels = append(levels, tables)
	}
	return levels
}

func TestLoadKeepsWhatStandsThere(t *testing.T) {
	// More in memory than there is room for, and more tables than there may be, stay as they are.
	p := &plain{room: 1, most: 2, mem: []memtab.Entry{e(0, 0, 0), e(0, 0, 1), e(0, 0, 2)}}
	for k := range 6 {
		p.push(k%2*2, []memtab.Entry{e(1, k, k)})
	}
	x := p.loaded(t)
	stands(t, "loaded", x, 3, 3, 0, 3)
	same(t, "loaded", x, p)
	held(t, "loaded", x, p.all(), few())
}

func TestLoadTakesRoomAndMost(t *testing.T) {
	b := New(7, 7)
	b.Add(some(6)...)
	saved, _ := b.Save()
	for room := -1; room < 12; room++ {
		for most := -1; most < 6; most++ {
			x, err := Load(saved, room, most)
			what := fmt.Sprint("room ", room, ", most ", most)
			equal(t, what+": error", err, api.OK)
			p := &plain{room: max(room, 1), most: max(most, 2), mem: some(6)}
			for k := range 30 {
				x.Add(e(7, k, 2000+k))
				p.add(e(7, k, 2000+k))
				same(t, what, x, p)
			}
		}
	}
}

func TestLoadTellsTheErrorOfASum(t *testing.T) {
	p := &plain{mem: []memtab.Entry{e(1, 1, 1)}}
	p.push(1, []memtab.Entry{e(2, 2, 2)})
	for what, b := range map[string]string{"some": p.bytes(), "nothing": (&plain{}).bytes()} {
		for k := range b {
			turned := []byte(b)
			for _, by := range []byte{1, 0x80, 0xff} {
				turned[k] = b[k] ^ by
				spoilt(t, fmt.Sprint(what, ", the byte ", k, " turned by ", by), string(turned), api.ErrSum)
			}
			want := api.ErrSum
			if k < 4 {
				want = api.ErrShort
			}
			spoilt(t, fmt.Sprint(what, ", cut off at ", k), b[:k], want)
		}
		spoilt(t, what+", a byte more", b+"\x00", api.ErrSum)
	}
	spoilt(t, "four noughts", "\x00\x00\x00\x00", api.ErrForm)
	long := strings.Repeat("x", 70000)
	spoilt(t, "too long, with another sum", long, api.ErrSum)
	spoilt(t, "too long", sealed(long), api.ErrForm)
}

func TestLoadOfEachByteTurnedAndSealed(t *testing.T) {
	// Each table has a sum of its own, so that only the counts of tables and the lengths can be turned unseen: into nothing that is laid.
	p := &plain{mem: []memtab.Entry{e(1, 1, 1)}}
	p.push(0, []memtab.Entry{e(2, 2, 2), e(3, 3, 3)})
	p.push(1, []memtab.Entry{e(4, 4, 4)})
	b := p.bytes()[4:]
	for k := range b {
		for by := 1; by < 256; by++ {
			spoilt(t, fmt.Sprint("the byte ", k, " turned by ", by), sealed(b[:k]+string([]byte{b[k] ^ byte(by)})+b[k+1:]), api.ErrForm)
		}
		spoilt(t, fmt.Sprint("cut off at ", k), sealed(b[:k]), api.ErrForm)
		spoilt(t, fmt.Sprint("without the byte ", k), sealed(b[:k]+b[k+1:]), api.ErrForm)
	}
	for c := range 256 {
		spoilt(t, fmt.Sprint("a byte ", c, " more"), sealed(b+string([]byte{byte(c)})), api.ErrForm)
	}
}

func TestLoadTellsErrForm(t *testing.T) {
	one, two, three := tableOf(e(1, 1, 1)), tableOf(e(2, 2, 2)), tableOf(e(3, 3, 3))
	empty := tableOf()
	for what, body := range map[string]string{
		"nothing":                              "",
		"no memory":                            "\x00",
		"a level without tables, no memory":    "\x01\x00",
		"one level, none with tables":          "\x01\x00" + empty,
		"one level, none with tables, memory":  "\x01\x00" + one,
		"levels without tables":                "\x03\x00\x00\x00" + empty,
		"a level without tables behind":        "\x02\x01" + one + "\x00" + empty,
		"two levels without tables behind":     "\x03\x01" + one + "\x00\x00" + two,
		"fewer levels than it says":            "\x02\x01" + one + empty,
		"more levels than it says":             "\x01\x01" + one + "\x01" + two + empty,
		"fewer tables than it says":            "\x01\x02" + one + empty,
		"more tables than it says":             "\x01\x01" + one + two + empty,
		"a table without entries":              "\x01\x01" + empty + empty,
		"a table without entries, and memory":  "\x01\x01" + empty + one,
		"a table without entries behind one":   "\x01\x02" + one + empty + two,
		"a table without entries ahead of one": "\x01\x02" + empty + one + two,
		"one in the second level":              "\x02\x01" + one + "\x01" + empty + two,
		"memory twice":                         "\x00" + one + two,
		"no levels, and tables":                "\x00\x01" + one + empty,
		"a byte behind":                        "\x01\x01" + one + empty + "\x00",
		"an entry twice in a table":            "\x01\x01" + tableOf(e(1, 1, 1), e(1, 1, 1)) + empty,
		"an entry twice in memory":             "\x00" + tableOf(e(1, 1, 1), e(1, 1, 1)),
		"an entry in two tables":               "\x01\x02" + one + one + empty,
		"an entry in the first and third":      "\x01\x03" + one + two + one + empty,
		"an entry in two levels":               "\x02\x01" + one + "\x01" + one + empty,
		"an entry in levels 0 and 2":           "\x03\x01" + one + "\x00\x01" + one + empty,
		"an entry in a table and in memory":    "\x01\x01" + one + one,
		"an entry in level 1 and in memory":    "\x02\x01" + two + "\x01" + three + three,
		"one of several in memory":             "\x01\x01" + tableOf(e(1, 1, 1), e(2, 2, 2), e(3, 3, 3)) + tableOf(e(0, 0, 0), e(2, 2, 2)),
		"entries that fall in a table":         "\x01\x01" + tableOf(e(2, 2, 2), e(1, 1, 1)) + empty,
		"entries that fall in memory":          "\x00" + tableOf(e(2, 2, 2), e(1, 1, 1)),
		"a number below 0 in a table":          "\x01\x01" + tableOf(e(-1, 1, 1)) + empty,
		"a number below 0 in memory":           "\x00" + tableOf(e(1, -1, 1)),
		"a number too great in a table":        "\x01\x01" + tableOf(e(most+1, 1, 1)) + empty,
		"a number too great in memory":         "\x00" + tableOf(e(1, 1, most+1)),
		"a table with a wrong sum":             "\x01\x01" + text("\x00"+one[5:]) + empty,
		"memory with a wrong sum":              "\x00" + text("\x00"+one[5:]),
		"a table with another mark":            "\x01\x01" + text(sealed("PTAC"+one[12:])) + empty,
		"memory of three bytes":                "\x00" + text("abc"),
		"memory of no byte":                    "\x00" + text(""),
		"a table of no byte":                   "\x01\x01" + text("") + empty,
		"a length that is too great":           "\x00\xff\xff\xff\xff" + one[4:],
		"a length that is one too great":       "\x00\x00\x00\x00\x25" + one[4:],
		"a length that is one too little":      "\x00\x00\x00\x00\x23" + one[4:],
		"the memory ahead":                     one + "\x01\x01" + two,
		"the counts of tables ahead":           "\x02\x01\x01" + one + two + empty,
		"255 levels":                           "\xff",
		"255 levels, none with tables":         "\xff" + strings.Repeat("\x00", 255) + empty,
		"255 tables":                           "\x01\xff" + one,
	} {
		spoilt(t, what, sealed(body), api.ErrForm)
	}
}

func TestLoadOfWhatIsJustRight(t *testing.T) {
	one, two, three := tableOf(e(1, 1, 1)), tableOf(e(2, 2, 2)), tableOf(e(3, 3, 3))
	for what, x := range map[string]struct {
		body   string
		mem    int
		levels []int
	}{
		"nothing":                     {"\x00" + tableOf(), 0, nil},
		"memory alone":                {"\x00" + one, 1, nil},
		"a table":                     {"\x01\x01" + one + tableOf(), 0, []int{1}},
		"levels without tables ahead": {"\x03\x00\x00\x01" + one + two, 1, []int{0, 0, 1}},
		"one without in between":      {"\x03\x01" + one + "\x00\x01" + two + three, 1, []int{1, 0, 1}},
		"tables in no order":          {"\x01\x03" + three + one + two + tableOf(), 0, []int{3}},
		"entries in one another":      {"\x01\x02" + tableOf(e(1, 1, 1), e(1, 1, 3)) + tableOf(e(1, 1, 0), e(1, 1, 2)) + tableOf(e(1, 1, 4)), 1, []int{2}},
	} {
		index, err := Load(sealed(x.body), 2, 2)
		equal(t, what+": error", err, api.OK)
		stands(t, what, index, x.mem, x.levels...)
		saves(t, what, index, sealed(x.body))
	}
}

func TestLoadOfMoreThanIsLaid(t *testing.T) {
	// In tables of their own so many that none of them is too long.
	p := &plain{}
	for k := range 5 {
		p.push(0, rising(498, 1000*k))
	}
	p.mem = []memtab.Entry{e(70, 0, 0)}
	equal(t, "bytes", len(p.bytes()) <= 60000, true)
	same(t, "not too long", p.loaded(t), p)
	p.mem = rising(10, 9000)
	equal(t, "bytes", len(p.bytes()) > 60000, true)
	spoilt(t, "too long", p.bytes(), api.ErrForm)
	one := &plain{mem: rising(2500, 0)}
	spoilt(t, "too long in memory", one.bytes(), api.ErrForm)
}

// Rule 2: the bytes that are handed out and in are their own.
func TestSaveIsNewEachTime(t *testing.T) {
	x := New(3, 2)
	x.Add(some(20)...)
	first, _ := x.Save()
	kept := strings.Clone(first)
	x.Add(e(9, 9, 9))
	x.Merge()
	second, _ := x.Save()
	equal(t, "Save of before", first, kept)
	equal(t, "another one", first == second, false)
}
