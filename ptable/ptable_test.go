package ptable

import (
	"encoding/binary"
	"fmt"
	"hash/crc32"
	"math"
	"math/rand"
	"slices"
	"testing"

	"chronicle/api"
	"chronicle/memtab"
)

const most = 1 << 40 // the greatest number of an entry

func equal[T comparable](t *testing.T, what string, got, want T) {
	t.Helper()
	if got != want {
		t.Errorf("%s: %.300s, not %.300s", what, fmt.Sprintf("%#v", got), fmt.Sprintf("%#v", want))
	}
}

func alike[T comparable](t *testing.T, what string, got, want []T) {
	t.Helper()
	if !slices.Equal(got, want) {
		t.Errorf("%s: %d %.300s, not %d %.300s", what, len(got), fmt.Sprintf("%v", got), len(want), fmt.Sprintf("%v", want))
	}
}

// e is an entry in few letters.
func e(hash, version, pos int) memtab.Entry {
	return memtab.Entry{Hash: hash, Version: version, Pos: pos}
}

// rising has so many entries in order, several of a hash, some of a version.
func rising(n int) []memtab.Entry {
	var l []memtab.Entry
	for k := range n {
		l = append(l, e(k/11*2, k%11/3*2, k))
	}
	return l
}

// sealed is a text behind its sum, reckoned without the project's packages.
func sealed(s string) string {
	return string(binary.BigEndian.AppendUint32(nil, crc32.ChecksumIEEE([]byte(s)))) + s
}

// laid is what stands behind a table's mark: a count, and entries, which may be others than it says.
func laid(count int, l ...memtab.Entry) string {
	b := binary.BigEndian.AppendUint32(nil, uint32(count))
	for _, entry := range l {
		for _, v := range []int{entry.Hash, entry.Version, entry.Pos} {
			b = binary.BigEndian.AppendUint64(b, uint64(v))
		}
	}
	return string(b)
}

// bytesOf are the bytes of a table of entries, also of such that none may have.
func bytesOf(l ...memtab.Entry) string { return sealed("PTAB" + laid(len(l), l...)) }

// tableOf is an opened table of entries.
func tableOf(t *testing.T, l ...memtab.Entry) *Table {
	t.Helper()
	table, err := Open(bytesOf(l...))
	if err != api.OK {
		t.Fatalf("Open of %.300s: %v", fmt.Sprint(l), err)
	}
	return table
}

// tabOf is a tab of entries.
func tabOf(l ...memtab.Entry) *memtab.Tab {
	tab := memtab.New()
	tab.Add(l...)
	return tab
}

// builds holds what Build tells against the bytes that it must lay.
func builds(t *testing.T, what string, l ...memtab.Entry) {
	t.Helper()
	b, err := Build(l...)
	equal(t, what+": error", err, api.OK)
	equal(t, what, b, bytesOf(l...))
}

// refused holds that Build tells ErrArg of entries, Open ErrForm of their bytes, and neither anything beside it.
func refused(t *testing.T, what string, l ...memtab.Entry) {
	t.Helper()
	b, err := Build(l...)
	equal(t, what+": Build's error", err, api.ErrArg)
	equal(t, what+": bytes beside it", b, "")
	spoilt(t, what, bytesOf(l...), api.ErrForm)
}

// spoilt holds that Open tells an error of b, and no table beside it.
func spoilt(t *testing.T, what, b string, want api.Errno) {
	t.Helper()
	table, err := Open(b)
	equal(t, what+": Open's error", err, want)
	if table != nil {
		t.Errorf("%s: a table beside the error", what)
	}
}

// last holds what Last tells against the last one of entries; against none, if there is none.
func last(t *testing.T, what string, table *Table, hash int, of []memtab.Entry) {
	t.Helper()
	got, is := table.Last(hash)
	var want memtab.Entry
	if len(of) > 0 {
		want = of[len(of)-1]
	}
	equal(t, what, got, want)
	equal(t, what+": whether there is one", is, len(of) > 0)
}

// held holds all that can be asked of a table against entries in order, for the hashes and versions that are handed in.
func held(t *testing.T, what string, table *Table, want []memtab.Entry, numbers []int) {
	t.Helper()
	equal(t, what+": Len", table.Len(), len(want))
	alike(t, what+": All", table.All(), want)
	for _, hash := range numbers {
		of := only(want, func(entry memtab.Entry) bool { return entry.Hash == hash })
		last(t, fmt.Sprint(what, ": Last of ", hash), table, hash, of)
		for _, from := range numbers {
			var places []int
			for _, entry := range only(of, func(entry memtab.Entry) bool { return entry.Version == from }) {
				places = append(places, entry.Pos)
			}
			alike(t, fmt.Sprint(what, ": Find of ", hash, " ", from), table.Find(hash, from), places)
			for _, to := range numbers {
				among := only(of, func(entry memtab.Entry) bool { return from <= entry.Version && entry.Version < to })
				alike(t, fmt.Sprint(what, ": Range of ", hash, " ", from, " ", to), table.Range(hash, from, to), among)
			}
		}
	}
}

func only(l []memtab.Entry, is func(memtab.Entry) bool) []memtab.Entry {
	var found []memtab.Entry
	for _, entry := range l {
		if is(entry) {
			found = append(found, entry)
		}
	}
	return found
}

// few are the hashes and versions in and beside those of few entries; ends are those at the ends of all numbers.
func few() []int { return []int{-2, -1, 0, 1, 2, 3, 4, 5, 6, 7, 8} }

func ends() []int {
	return []int{math.MinInt, math.MinInt + 1, -most, -1, 0, 1, most - 1, most, most + 1, math.MaxInt - 1, math.MaxInt}
}

// P1301: Build.

func TestBuildLaysEachByte(t *testing.T) {
	b, err := Build(e(1, 2, 3), e(1, 2, 258), e(most, 0, most-1))
	equal(t, "error", err, api.OK)
	equal(t, "behind the sum", b[4:], "PTAB"+"\x00\x00\x00\x03"+
		"\x00\x00\x00\x00\x00\x00\x00\x01"+"\x00\x00\x00\x00\x00\x00\x00\x02"+"\x00\x00\x00\x00\x00\x00\x00\x03"+
		"\x00\x00\x00\x00\x00\x00\x00\x01"+"\x00\x00\x00\x00\x00\x00\x00\x02"+"\x00\x00\x00\x00\x00\x00\x01\x02"+
		"\x00\x00\x01\x00\x00\x00\x00\x00"+"\x00\x00\x00\x00\x00\x00\x00\x00"+"\x00\x00\x00\xff\xff\xff\xff\xff")
	equal(t, "with the sum", b, sealed(b[4:]))
}

func TestBuild(t *testing.T) {
	builds(t, "of none")
	builds(t, "of one", e(0, 0, 0))
	builds(t, "of the greatest numbers", e(0, 0, most), e(0, most, 0), e(most, 0, 0), e(most, most, most-1), e(most, most, most))
	builds(t, "where Pos alone rises", e(1, 1, 1), e(1, 1, 2))
	builds(t, "where Version rises and Pos falls", e(1, 1, 9), e(1, 2, 0))
	builds(t, "where Hash rises and the others fall", e(1, 9, 9), e(2, 0, 0))
	for n := range 300 {
		builds(t, fmt.Sprint("of ", n), rising(n)...)
	}
}

func TestBuildTakesManyEntries(t *testing.T) {
	many := rising(1 << 17)
	builds(t, "of many", many...)
	table := tableOf(t, many...)
	alike(t, "All of many", table.All(), many)
	tab := tabOf(many...)
	for k := 0; k < len(many); k += 997 {
		hash, version := many[k].Hash, many[k].Version
		alike(t, "Find among many", table.Find(hash, version), tab.Find(hash, version))
		alike(t, "Range among many", table.Range(hash, version, version+3), tab.Range(hash, version, version+3))
		alike(t, "Find of what isn't among many", table.Find(hash+1, version), nil)
	}
}

// P1301: what is no table: ErrArg of Build, ErrForm of Open.

func TestNumbersThatCannotBe(t *testing.T) {
	for _, bad := range []int{math.MinInt, -most, -1, most + 1, 1 << 41, math.MaxInt} {
		for what, wrong := range map[string]memtab.Entry{"Hash": e(bad, 5, 5), "Version": e(5, bad, 5), "Pos": e(5, 5, bad)} {
			what = fmt.Sprint("a ", what, " of ", bad)
			refused(t, what, wrong)
			l := []memtab.Entry{e(4, 0, 0), e(5, 5, 4), e(5, 5, 6), e(6, 0, 0), wrong}
			slices.SortFunc(l, order)
			refused(t, what+" among others", l...)
		}
	}
}

func TestEntriesThatDoNotRise(t *testing.T) {
	refused(t, "one twice", e(1, 1, 1), e(1, 1, 1))
	refused(t, "the least one twice", e(0, 0, 0), e(0, 0, 0))
	refused(t, "Pos falls", e(1, 1, 1), e(1, 1, 0))
	refused(t, "Version falls and Pos rises", e(1, 1, 1), e(1, 0, 9))
	refused(t, "Hash falls and the others rise", e(1, 1, 1), e(0, 9, 9))
	for n := range 40 {
		for k := range n {
			l := rising(n)
			refused(t, fmt.Sprint("the place ", k, " of ", n, " twice"), slices.Insert(l, k, l[k])...)
			if k > 0 {
				l = rising(n)
				l[k-1], l[k] = l[k], l[k-1]
				refused(t, fmt.Sprint("the place ", k, " of ", n, " ahead of the one ahead"), l...)
			}
		}
	}
}

// P1301: Open.

func TestOpenOfBuild(t *testing.T) {
	for n := range 100 {
		b, err := Build(rising(n)...)
		equal(t, fmt.Sprint("Build's error of ", n), err, api.OK)
		table, err := Open(b)
		equal(t, fmt.Sprint("Open's error of ", n), err, api.OK)
		alike(t, fmt.Sprint("All of ", n), table.All(), rising(n))
		again, err := Build(table.All()...)
		equal(t, fmt.Sprint("Build again of ", n), again, b)
		equal(t, fmt.Sprint("its error of ", n), err, api.OK)
	}
}

func TestOpenTellsTheErrorOfASum(t *testing.T) {
	for n := range 4 {
		b := bytesOf(rising(n)...)
		for k := range b {
			turned := []byte(b)
			for _, by := range []byte{1, 0x80, 0xff} {
				turned[k] = b[k] ^ by
				spoilt(t, fmt.Sprint(n, " entries, the byte ", k, " turned by ", by), string(turned), api.ErrSum)
			}
			want := api.ErrSum
			if k < 4 {
				want = api.ErrShort
			}
			spoilt(t, fmt.Sprint(n, " entries, cut off at ", k), b[:k], want)
		}
		spoilt(t, "a byte more", b+"\x00", api.ErrSum)
	}
	// The sum of nothing is 0.
	spoilt(t, "four noughts", "\x00\x00\x00\x00", api.ErrForm)
	spoilt(t, "three noughts", "\x00\x00\x00", api.ErrShort)
	spoilt(t, "no byte", "", api.ErrShort)
}

func TestOpenTellsErrForm(t *testing.T) {
	one := laid(1, e(1, 2, 3))
	two := laid(2, e(1, 2, 3), e(1, 2, 4))
	for what, body := range map[string]string{
		"nothing":                     "",
		"part of the mark":            "PTA",
		"the mark alone":              "PTAB",
		"another mark":                "PTAC" + one,
		"a mark of small letters":     "ptab" + one,
		"no mark":                     one,
		"the mark twice":              "PTABPTAB" + one,
		"the mark behind a byte":      "\x00PTAB" + one,
		"a byte more":                 "PTAB" + one + "\x00",
		"a byte more behind none":     "PTAB" + laid(0) + "\x00",
		"an entry more":               "PTAB" + laid(1, e(1, 2, 3), e(1, 2, 4)),
		"an entry more behind none":   "PTAB" + laid(0, e(1, 2, 3)),
		"an entry less":               "PTAB" + laid(3, e(1, 2, 3), e(1, 2, 4)),
		"none of one":                 "PTAB" + laid(1),
		"none of the greatest count":  "PTAB" + laid(math.MaxUint32),
		"one of the greatest count":   "PTAB" + laid(math.MaxUint32, e(1, 2, 3)),
		"a count of the lowest first": "PTAB\x01\x00\x00\x00" + one[4:],
		"the lowest byte first":       "PTAB" + laid(1, e(1<<56, 2<<56, 3<<56)),
	} {
		spoilt(t, what, sealed(body), api.ErrForm)
	}
	for k := range len("PTAB" + two) {
		spoilt(t, fmt.Sprint("cut off at ", k), sealed(("PTAB" + two)[:k]), api.ErrForm)
	}
}

// P1302: Find, Range, Last, All, Len.

func TestAsOfATab(t *testing.T) {
	for n := range 50 {
		l := rising(n)
		table, tab := tableOf(t, l...), tabOf(l...)
		what := fmt.Sprint(n, " entries")
		held(t, what, table, l, few())
		equal(t, what+": Len of the tab", table.Len(), tab.Len())
		alike(t, what+": All of the tab", table.All(), tab.All())
		for _, hash := range few() {
			for _, version := range few() {
				alike(t, what+": Find of the tab", table.Find(hash, version), tab.Find(hash, version))
				alike(t, what+": Range of the tab", table.Range(hash, version, 5), tab.Range(hash, version, 5))
			}
			got, is := table.Last(hash)
			want, was := tab.Last(hash)
			equal(t, what+": Last of the tab", got, want)
			equal(t, what+": whether it is there", is, was)
		}
	}
}

func TestEntriesOnBothSidesOfAMidpoint(t *testing.T) {
	// One version has entries all over a table, also just up to a midpoint, and just from one on.
	for n := range 28 {
		for from := range n + 1 {
			for to := from; to <= n; to++ {
				var l []memtab.Entry
				var places []int
				for k := range n {
					switch {
					case k < from:
						l = append(l, e(2, 2, k))
					case k < to:
						l, places = append(l, e(2, 3, k)), append(places, k)
					default:
						l = append(l, e(2, 5, k))
					}
				}
				what := fmt.Sprint(from, " to ", to, " of ", n)
				table := tableOf(t, l...)
				alike(t, what+": Find", table.Find(2, 3), places)
				alike(t, what+": Range", table.Range(2, 3, 4), l[from:to])
				alike(t, what+": Range from it on", table.Range(2, 3, 9), l[from:])
				alike(t, what+": Range up to it", table.Range(2, 0, 4), l[:to])
				last(t, what+": Last", table, 2, l)
			}
		}
	}
}

func TestNumbersAtTheEnds(t *testing.T) {
	l := []memtab.Entry{
		e(0, 0, 0), e(0, 0, most), e(0, most, 0), e(0, most, most), e(1, 0, 0), e(most-1, most, most),
		e(most, 0, 0), e(most, 0, most), e(most, most-1, most), e(most, most, 0), e(most, most, 1), e(most, most, most),
	}
	held(t, "the greatest numbers", tableOf(t, l...), l, ends())
	for k := range l {
		held(t, fmt.Sprint("from the place ", k, " on"), tableOf(t, l[k:]...), l[k:], ends())
		held(t, fmt.Sprint("up to the place ", k), tableOf(t, l[:k]...), l[:k], ends())
	}
}

func TestAgainstATabOfAnyEntries(t *testing.T) {
	for seed := range 60 {
		r := rand.New(rand.NewSource(int64(seed)))
		tab := memtab.New()
		for range r.Intn(120) {
			tab.Add(e(r.Intn(8), r.Intn(8), r.Intn(4)))
		}
		held(t, fmt.Sprint("seed ", seed), tableOf(t, tab.All()...), tab.All(), few())
	}
}

// P1302: Mids.

func TestMidsOfTheExample(t *testing.T) {
	b, err := Build(rising(9)...)
	equal(t, "Build's error", err, api.OK)
	table, err := Open(b)
	equal(t, "Open's error", err, api.OK)
	alike(t, "Mids", table.Mids(), []memtab.Entry{rising(9)[0], rising(9)[8]})
}

func TestMids(t *testing.T) {
	for n, places := range map[int][]int{
		0: nil, 1: {0}, 2: {0, 1}, 7: {0, 6}, 8: {0, 7}, 9: {0, 8}, 10: {0, 8, 9}, 15: {0, 8, 14}, 16: {0, 8, 15},
		17: {0, 8, 16}, 18: {0, 8, 16, 17}, 24: {0, 8, 16, 23}, 25: {0, 8, 16, 24}, 26: {0, 8, 16, 24, 25},
	} {
		var want []memtab.Entry
		for _, k := range places {
			want = append(want, rising(n)[k])
		}
		alike(t, fmt.Sprint("Mids of ", n), tableOf(t, rising(n)...).Mids(), want)
	}
}

// P1302: Merge.

// merges holds what Merge tells of tables against entries in order.
func merges(t *testing.T, what string, want []memtab.Entry, tables ...*Table) {
	t.Helper()
	got, err := Merge(tables...)
	equal(t, what+": error", err, api.OK)
	alike(t, what, got, want)
}

func order(a, b memtab.Entry) int {
	return slices.Compare([]int{a.Hash, a.Version, a.Pos}, []int{b.Hash, b.Version, b.Pos})
}

func TestMerge(t *testing.T) {
	l := rising(30)
	empty, some, all := tableOf(t), tableOf(t, l[7:20]...), tableOf(t, l...)
	merges(t, "of no table", nil)
	merges(t, "of an empty one", nil, empty)
	merges(t, "of empty ones", nil, empty, empty, empty)
	merges(t, "of one", l, all)
	merges(t, "of one and an empty one", l, all, empty)
	merges(t, "of an empty one and one", l, empty, all)
	merges(t, "of one twice", l, all, all)
	merges(t, "of one and a part of it", l, all, some)
	merges(t, "of a part and all of it", l, some, all, some)
	merges(t, "of one behind the other", l, tableOf(t, l[:7]...), some, tableOf(t, l[20:]...))
	merges(t, "of one ahead of the other", l, tableOf(t, l[20:]...), some, tableOf(t, l[:7]...))
	merges(t, "that have some of each other", l, tableOf(t, l[3:22]...), tableOf(t, l[:9]...), tableOf(t, l[17:]...))
	merges(t, "of entries alike but for Pos", []memtab.Entry{e(1, 1, 0), e(1, 1, 1), e(1, 1, 2)}, tableOf(t, e(1, 1, 1)), tableOf(t, e(1, 1, 0), e(1, 1, 2)))
	merges(t, "of the words of the order", []memtab.Entry{e(0, 9, 9), e(1, 0, 9), e(1, 1, 0)}, tableOf(t, e(1, 1, 0)), tableOf(t, e(1, 0, 9)), tableOf(t, e(0, 9, 9)))
}

func TestMergeOfSeveral(t *testing.T) {
	// Each entry goes to one to three of the tables.
	for tables := 1; tables < 12; tables++ {
		parts := make([][]memtab.Entry, tables)
		for k, entry := range rising(200) {
			for c := range 1 + k%3 {
				at := (k*7 + c*c) % tables
				if !slices.Contains(parts[at], entry) {
					parts[at] = append(parts[at], entry)
				}
			}
		}
		var l []*Table
		for _, part := range parts {
			l = append(l, tableOf(t, part...))
		}
		merges(t, fmt.Sprint("of ", tables), rising(200), l...)
		slices.Reverse(l)
		merges(t, fmt.Sprint("of ", tables, " turned round"), rising(200), l...)
	}
}

func TestMergeOfOneTableManyTimes(t *testing.T) {
	table := tableOf(t, rising(500)...)
	merges(t, "of a thousand times", rising(500), slices.Repeat([]*Table{table}, 1000)...)
}

func TestMergeOfAnyTables(t *testing.T) {
	for seed := range 100 {
		r := rand.New(rand.NewSource(int64(seed)))
		all := memtab.New()
		var l []*Table
		for range r.Intn(9) {
			tab := memtab.New()
			for range r.Intn(40) {
				tab.Add(e(r.Intn(4), r.Intn(4), r.Intn(4)))
			}
			all.Add(tab.All()...)
			l = append(l, tableOf(t, tab.All()...))
		}
		merges(t, fmt.Sprint("seed ", seed), all.All(), l...)
	}
}

func TestMergeRefusesNil(t *testing.T) {
	some, empty := tableOf(t, rising(10)...), tableOf(t)
	for what, l := range map[string][]*Table{
		"alone": {nil}, "first": {nil, some, empty}, "last": {some, empty, nil}, "in the middle": {some, nil, some}, "twice": {nil, nil},
		"behind an empty one": {empty, nil}, "behind a zero one": {{}, nil},
	} {
		got, err := Merge(l...)
		equal(t, what+": error", err, api.ErrArg)
		equal(t, what+": entries beside it", len(got), 0)
	}
}

// P1303: nil and zero Tables.

func TestNilTable(t *testing.T) {
	var none *Table
	held(t, "a nil Table", none, nil, append(few(), ends()...))
	equal(t, "Mids", len(none.Mids()), 0)
}

func TestZeroTable(t *testing.T) {
	var zero Table
	held(t, "a zero Table", &zero, nil, append(few(), ends()...))
	equal(t, "Mids", len(zero.Mids()), 0)
	merges(t, "Merge of a zero one", nil, &zero)
	merges(t, "Merge of zero ones", nil, &zero, &zero, new(Table))
	merges(t, "Merge of one and zero ones", rising(10), &zero, tableOf(t, rising(10)...), &zero)
}

// Rule 2: answers are new, and nothing writes into what was handed in.

func TestAnswersAreNew(t *testing.T) {
	want := rising(20)
	table := tableOf(t, want...)
	turned := func() {
		clear(table.All())
		clear(table.Range(0, 0, 99))
		clear(table.Find(0, 0))
		clear(table.Mids())
		_ = append(table.Range(0, 0, 1), e(9, 9, 9))
		_ = append(table.All()[:3], e(9, 9, 9))
		one, _ := Merge(table)
		clear(one)
		two, _ := Merge(table, table)
		clear(two)
		three, _ := Merge(&Table{}, table)
		clear(three)
	}
	all, mids, found, places := table.All(), table.Mids(), table.Range(0, 0, 99), table.Find(0, 0)
	merged, _ := Merge(table)
	turned()
	held(t, "when answers are turned", table, want, few())
	alike(t, "All of before", all, want)
	alike(t, "Mids of before", mids, table.Mids())
	alike(t, "Range of before", found, table.Range(0, 0, 99))
	alike(t, "Find of before", places, table.Find(0, 0))
	alike(t, "Merge of before", merged, want)
}

func TestNothingWritesIntoWhatWasHandedIn(t *testing.T) {
	for _, l := range [][]memtab.Entry{rising(20), {e(2, 0, 0), e(1, 0, 0)}, {e(1, 1, 1), e(-1, 0, 0)}} {
		kept := slices.Clone(l)
		Build(l...)
		alike(t, "what Build was handed", l, kept)
	}
	a, b, c := tableOf(t, rising(20)[5:]...), tableOf(t, rising(9)...), tableOf(t)
	l := []*Table{a, b, c, b}
	Merge(l...)
	alike(t, "what Merge was handed", l, []*Table{a, b, c, b})
	alike(t, "the first table", a.All(), rising(20)[5:])
	alike(t, "the second table", b.All(), rising(9))
}

// Rule 4: copies are the same in all that can be asked.

func TestCopies(t *testing.T) {
	table := tableOf(t, rising(20)...)
	twin := *table
	clear(table.All())
	held(t, "the copy", &twin, rising(20), few())
	alike(t, "its Mids", twin.Mids(), table.Mids())
	merges(t, "both", rising(20), table, &twin)
}
