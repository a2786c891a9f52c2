package memtab

import (
	"fmt"
	"math"
	"math/bits"
	"math/rand"
	"slices"
	"testing"
)

func equal[T comparable](t *testing.T, what string, got, want T) {
	t.Helper()
	if got != want {
		t.Errorf("%s: %.300s, not %.300s", what, fmt.Sprintf("%#v", got), fmt.Sprintf("%#v", want))
	}
}

func alike[T comparable](t *testing.T, what string, got, want []T) {
	t.Helper()
	if !slices.Equal(got, want) {
		t.Errorf("%s: %d %.300s, not %d %.300s", what, len(got), fmt.Sprintf("%v", got), len(want), fmt.Sprintf("%v", want))
	}
}

// e is an entry in few letters.
func e(hash, version, pos int) Entry { return Entry{hash, version, pos} }

// tabOf is a tab of these entries.
func tabOf(l ...Entry) *Tab {
	tab := New()
	tab.Add(l...)
	return tab
}

// last holds what Last tells against an entry; against none, if no entry is handed in.
func last(t *testing.T, what string, tab *Tab, hash int, want ...Entry) {
	t.Helper()
	got, is := tab.Last(hash)
	if is != (len(want) == 1) {
		t.Errorf("%s: %v, %v, not %v", what, got, is, want)
	} else if want = append(want, Entry{}); got != want[0] {
		t.Errorf("%s: %v, not %v", what, got, want[0])
	}
}

// held holds all that can be asked of a tab against entries in order.
func held(t *testing.T, what string, tab *Tab, want []Entry) {
	t.Helper()
	equal(t, what+": Len", tab.Len(), len(want))
	alike(t, what+": All", tab.All(), want)
	for hash := -1; hash < 6; hash++ {
		var of []Entry
		for _, entry := range want {
			if entry.Hash == hash {
				of = append(of, entry)
			}
		}
		last(t, fmt.Sprint(what, ": Last of ", hash), tab, hash, of[max(len(of)-1, 0):]...)
		for from := -1; from < 8; from++ {
			var places []int
			for _, entry := range of {
				if entry.Version == from {
					places = append(places, entry.Pos)
				}
			}
			alike(t, fmt.Sprint(what, ": Find of ", hash, from), tab.Find(hash, from), places)
			for to := from - 1; to < 9; to++ {
				var among []Entry
				for _, entry := range of {
					if from <= entry.Version && entry.Version < to {
						among = append(among, entry)
					}
				}
				alike(t, fmt.Sprint(what, ": Range of ", hash, from, to), tab.Range(hash, from, to), among)
			}
		}
	}
}

// upright tells how high a tree is, and holds what it keeps of itself against its nodes.
func upright(t *testing.T, what string, n *node) int {
	t.Helper()
	if n == nil {
		return 0
	}
	left, right := upright(t, what, n.left), upright(t, what, n.right)
	equal(t, what+": a node's height", n.high, max(left, right)+1)
	equal(t, what+": a node's count", n.count, n.left.len()+n.right.len()+1)
	if left > right+1 || right > left+1 {
		t.Errorf("%s: a node between heights of %d and %d", what, left, right)
	}
	return n.high
}

// P1201: Less.

func TestLess(t *testing.T) {
	rising := []Entry{
		e(math.MinInt, math.MaxInt, math.MaxInt), e(-1, 9, 9), e(0, math.MinInt, 9), e(0, -1, 9), e(0, 0, math.MinInt), e(0, 0, -1),
		e(0, 0, 0), e(0, 0, 1), e(0, 0, math.MaxInt), e(0, 1, 0), e(0, 1, 1), e(0, math.MaxInt, 0), e(1, 0, 0), e(1, 0, 9), e(1, 1, 0),
		e(2, 0, 0), e(math.MaxInt, math.MinInt, 0), e(math.MaxInt, math.MaxInt, math.MaxInt-1), e(math.MaxInt, math.MaxInt, math.MaxInt),
	}
	for i, a := range rising {
		for j, b := range rising {
			equal(t, fmt.Sprint("Less of ", a, b), Less(a, b), i < j)
		}
	}
}

// P1201: Add.

func TestAddTellsHowMany(t *testing.T) {
	tab := New()
	equal(t, "Add of the example", tab.Add(e(5, 1, 7), e(5, 0, 3)), 2)
	last(t, "Last of the example", tab, 5, e(5, 1, 7))
	equal(t, "Add of none", tab.Add(), 0)
	equal(t, "Add of what is there", tab.Add(e(5, 0, 3), e(5, 1, 7)), 0)
	equal(t, "Add of one twice", tab.Add(e(5, 2, 8), e(5, 2, 8)), 1)
	equal(t, "Add of some that are there", tab.Add(e(5, 1, 7), e(5, 1, 6), e(5, 2, 7), e(4, 1, 7), e(5, 2, 8)), 3)
	held(t, "behind them", tab, []Entry{e(4, 1, 7), e(5, 0, 3), e(5, 1, 6), e(5, 1, 7), e(5, 2, 7), e(5, 2, 8)})
}

func TestAddTakesNothingBelowNought(t *testing.T) {
	tab := New()
	equal(t, "Add of what is below 0", tab.Add(e(-1, 0, 0), e(0, -1, 0), e(0, 0, -1), e(math.MinInt, 1, 1), e(1, math.MinInt, 1), e(1, 1, math.MinInt)), 0)
	held(t, "behind it", tab, nil)
	equal(t, "Add of what is below 0 among others", tab.Add(e(1, 1, 1), e(-1, 2, 2), e(0, 0, 0), e(2, 2, -2), e(3, 3, 3)), 3)
	held(t, "behind these", tab, []Entry{e(0, 0, 0), e(1, 1, 1), e(3, 3, 3)})
}

func TestAddTakesTheGreatestNumbers(t *testing.T) {
	const most = math.MaxInt
	tab := New()
	equal(t, "Add", tab.Add(e(most, most, most), e(most, most, 0), e(most, 0, most), e(0, most, most), e(0, most, 0)), 5)
	alike(t, "All", tab.All(), []Entry{e(0, most, 0), e(0, most, most), e(most, 0, most), e(most, most, 0), e(most, most, most)})
	alike(t, "Find", tab.Find(most, most), []int{0, most})
	alike(t, "Find of the hash 0", tab.Find(0, most), []int{0, most})
	alike(t, "Range ends below the greatest version", tab.Range(most, 0, most), []Entry{e(most, 0, most)})
	alike(t, "Range from it", tab.Range(0, most, most), nil)
	last(t, "Last", tab, most, e(most, most, most))
	last(t, "Last of the hash 0", tab, 0, e(0, most, most))
	last(t, "Last of a hash that isn't there", tab, most-1)
	equal(t, "Cut of the greatest place", tab.Cut(most), 3)
	alike(t, "All behind it", tab.All(), []Entry{e(0, most, 0), e(most, most, 0)})
}

func TestAddInEachOrder(t *testing.T) {
	// All orders of seven entries turn the tree to each of its sides.
	want := []Entry{e(0, 0, 0), e(0, 0, 1), e(0, 3, 1), e(1, 0, 0), e(1, 2, 5), e(1, 2, 6), e(4, 0, 0)}
	var each func(ahead, left []Entry)
	each = func(ahead, left []Entry) {
		if len(left) == 0 {
			tab := New()
			for k, entry := range ahead {
				equal(t, "Add", tab.Add(entry), 1)
				equal(t, "Add again", tab.Add(ahead[:k+1]...), 0)
			}
			alike(t, fmt.Sprint("All of ", ahead), tab.All(), want)
			equal(t, "Len", tab.Len(), len(want))
			upright(t, fmt.Sprint("the tree of ", ahead), tab.root)
			return
		}
		for k := range left {
			each(append(slices.Clip(ahead), left[k]), slices.Delete(slices.Clone(left), k, k+1))
		}
	}
	each(nil, want)
}

func TestAddOfManyInAnyOrder(t *testing.T) {
	const many = 1 << 16
	orders := map[string]func(k int) Entry{
		"rising":         func(k int) Entry { return e(k>>8, k>>4, k) },
		"falling":        func(k int) Entry { return e((many-k)>>8, (many-k)>>4, many-k) },
		"to and fro":     func(k int) Entry { return e(0, 0, many+k*(1-k%2*2)) },
		"all over":       func(k int) Entry { return e(k*40503%many, k, k) },
		"of few hashes":  func(k int) Entry { return e(k%61, k/61, k) },
		"of one version": func(k int) Entry { return e(3, 4, k*40503%many) },
	}
	for what, order := range orders {
		tab := New()
		var want []Entry
		for k := range many {
			want = append(want, order(k))
			tab.Add(order(k))
		}
		slices.SortFunc(want, func(a, b Entry) int {
			if Less(a, b) {
				return -1
			}
			return 1
		})
		alike(t, what, tab.All(), want)
		if high := upright(t, what, tab.root); high > bits.Len(many)*3/2 {
			t.Errorf("%s: the tree of %d entries is %d high", what, many, high)
		}
	}
}

// P1201: Find, Range, Last, All.

func TestFind(t *testing.T) {
	tab := tabOf(e(5, 1, 7), e(5, 1, 2), e(5, 0, 9), e(5, 2, 0), e(4, 1, 3), e(6, 1, 4), e(5, 1, 0))
	alike(t, "Find of several", tab.Find(5, 1), []int{0, 2, 7})
	alike(t, "Find of one", tab.Find(5, 0), []int{9})
	alike(t, "Find of the place 0", tab.Find(5, 2), []int{0})
	alike(t, "Find of another hash", tab.Find(4, 1), []int{3})
	for _, none := range []Entry{e(5, 3, 0), e(4, 0, 0), e(4, 2, 0), e(7, 1, 0), e(3, 1, 0), e(-5, 1, 0), e(5, -1, 0), e(math.MinInt, math.MinInt, 0), e(math.MaxInt, math.MaxInt, 0)} {
		alike(t, fmt.Sprint("Find of ", none), tab.Find(none.Hash, none.Version), nil)
	}
}

func TestRange(t *testing.T) {
	tab := tabOf(e(5, 0, 3), e(5, 1, 7), e(5, 1, 2), e(5, 4, 1), e(4, 9, 9), e(6, 0, 0))
	all := []Entry{e(5, 0, 3), e(5, 1, 2), e(5, 1, 7), e(5, 4, 1)}
	alike(t, "Range of all", tab.Range(5, 0, 5), all)
	alike(t, "Range without bounds", tab.Range(5, math.MinInt, math.MaxInt), all)
	alike(t, "Range below the last one", tab.Range(5, 0, 4), all[:3])
	alike(t, "Range from the second version on", tab.Range(5, 1, 5), all[1:])
	alike(t, "Range of one version", tab.Range(5, 1, 2), all[1:3])
	alike(t, "Range from a version that isn't there", tab.Range(5, 2, 9), all[3:])
	alike(t, "Range to a version that isn't there", tab.Range(5, -3, 3), all[:3])
	alike(t, "Range between versions", tab.Range(5, 2, 4), nil)
	alike(t, "Range of nothing", tab.Range(5, 1, 1), nil)
	alike(t, "Range that ends ahead of its beginning", tab.Range(5, 4, 0), nil)
	alike(t, "Range turned as far as can be", tab.Range(5, math.MaxInt, math.MinInt), nil)
	alike(t, "Range behind all", tab.Range(5, 5, 99), nil)
	alike(t, "Range below 0", tab.Range(5, -9, 0), nil)
	alike(t, "Range of another hash", tab.Range(4, 0, 10), []Entry{e(4, 9, 9)})
	alike(t, "Range of a hash that isn't there", tab.Range(7, 0, 10), nil)
	alike(t, "Range of a hash below 0", tab.Range(-5, math.MinInt, math.MaxInt), nil)
}

func TestLast(t *testing.T) {
	tab := tabOf(e(5, 1, 7), e(5, 1, 9), e(5, 0, 99), e(2, 0, 0), e(7, 3, 3))
	last(t, "Last of several", tab, 5, e(5, 1, 9))
	last(t, "Last of one", tab, 2, e(2, 0, 0))
	last(t, "Last of the last hash", tab, 7, e(7, 3, 3))
	for _, none := range []int{math.MinInt, -5, -1, 0, 1, 3, 4, 6, 8, math.MaxInt} {
		last(t, fmt.Sprint("Last of ", none), tab, none)
	}
	last(t, "Last of the hash 0", tabOf(e(0, 0, 0)), 0, e(0, 0, 0))
}

func TestAnswersAreNew(t *testing.T) {
	handed := []Entry{e(5, 1, 7), e(5, 1, 3), e(2, 0, 0)}
	kept := slices.Clone(handed)
	tab := tabOf(handed...)
	alike(t, "what was handed in", handed, kept)
	clear(handed)
	want := []Entry{e(2, 0, 0), e(5, 1, 3), e(5, 1, 7)}
	alike(t, "All, when what was handed in is turned", tab.All(), want)
	clear(tab.All())
	clear(tab.Range(5, 0, 9))
	clear(tab.Find(5, 1))
	first, second := tab.All(), tab.All()
	clear(first)
	alike(t, "an answer, when another one is turned", second, want)
	held(t, "when answers are turned", tab, want)
}

// P1201: Cut, Len.

func TestCut(t *testing.T) {
	all := []Entry{e(1, 0, 4), e(1, 1, 2), e(2, 0, 5), e(2, 0, 6), e(2, 7, 0), e(5, 5, 5)}
	for pos := -2; pos < 9; pos++ {
		tab := tabOf(all...)
		var kept []Entry
		for _, entry := range all {
			if entry.Pos < pos {
				kept = append(kept, entry)
			}
		}
		what := fmt.Sprint("Cut of ", pos)
		equal(t, what, tab.Cut(pos), len(all)-len(kept))
		held(t, what, tab, kept)
		equal(t, what+" again", tab.Cut(pos), 0)
		held(t, what+" again", tab, kept)
		equal(t, what+" and Add", tab.Add(all...), len(all)-len(kept))
		held(t, what+" and Add", tab, all)
	}
	for _, pos := range []int{math.MinInt, -1, 0} {
		tab := tabOf(all...)
		equal(t, fmt.Sprint("Cut of all at ", pos), tab.Cut(pos), len(all))
		held(t, "of no entry", tab, nil)
	}
	equal(t, "Cut of the greatest place", tabOf(all...).Cut(math.MaxInt), 0)
	equal(t, "Cut of a tab that has nothing", New().Cut(0), 0)
}

// A nil Tab has nothing, and takes nothing; a zero one is one that has nothing.

func TestNilTab(t *testing.T) {
	var none *Tab
	for range 2 {
		held(t, "a nil Tab", none, nil)
		equal(t, "Add", none.Add(e(1, 1, 1)), 0)
		equal(t, "Add of none", none.Add(), 0)
		equal(t, "Cut", none.Cut(0), 0)
	}
}

func TestZeroTab(t *testing.T) {
	var tab Tab
	held(t, "a zero Tab", &tab, nil)
	held(t, "a new Tab", New(), nil)
	equal(t, "Cut", tab.Cut(-1), 0)
	equal(t, "Add", tab.Add(e(1, 1, 1), e(0, 1, 1)), 2)
	held(t, "a zero Tab behind Add", &tab, []Entry{e(0, 1, 1), e(1, 1, 1)})
}

// Rule 4: copies stay apart.

func TestCopiesStayApart(t *testing.T) {
	all := []Entry{e(0, 0, 1), e(1, 1, 2), e(2, 2, 3), e(3, 3, 4)}
	tab := tabOf(all...)
	twin := *tab
	equal(t, "Add to the one", tab.Add(e(2, 2, 2), e(4, 0, 0)), 2)
	held(t, "the other one", &twin, all)
	equal(t, "Cut of the other one", twin.Cut(3), 2)
	held(t, "the one", tab, []Entry{e(0, 0, 1), e(1, 1, 2), e(2, 2, 2), e(2, 2, 3), e(3, 3, 4), e(4, 0, 0)})
	equal(t, "Add to the other one", twin.Add(e(5, 5, 5), e(2, 2, 2)), 2)
	held(t, "the one still", tab, []Entry{e(0, 0, 1), e(1, 1, 2), e(2, 2, 2), e(2, 2, 3), e(3, 3, 4), e(4, 0, 0)})
	held(t, "the other one still", &twin, []Entry{e(0, 0, 1), e(1, 1, 2), e(2, 2, 2), e(5, 5, 5)})
}

// A tab against entries in one slice, which is sorted when it is asked.

type plain struct{ l []Entry }

func (p *plain) add(l ...Entry) int {
	before := len(p.l)
	for _, entry := range l {
		if entry.Hash >= 0 && entry.Version >= 0 && entry.Pos >= 0 && !slices.Contains(p.l, entry) {
			p.l = append(p.l, entry)
		}
	}
	return len(p.l) - before
}

func (p *plain) cut(pos int) int {
	before := len(p.l)
	p.l = slices.DeleteFunc(p.l, func(entry Entry) bool { return entry.Pos >= pos })
	return before - len(p.l)
}

func (p *plain) all() []Entry {
	l := slices.Clone(p.l)
	slices.SortFunc(l, func(a, b Entry) int {
		return slices.Compare([]int{a.Hash, a.Version, a.Pos}, []int{b.Hash, b.Version, b.Pos})
	})
	return l
}

func TestAgainstAPlainOne(t *testing.T) {
	for seed := range 30 {
		r := rand.New(rand.NewSource(int64(seed)))
		tab, truth := New(), &plain{}
		for step := range 60 {
			what := fmt.Sprint("seed ", seed, ", step ", step)
			if r.Intn(8) == 0 {
				pos := r.Intn(40) - 2
				equal(t, what+": Cut", tab.Cut(pos), truth.cut(pos))
			} else {
				var more []Entry
				for range r.Intn(9) {
					more = append(more, e(r.Intn(6)-1, r.Intn(8)-1, r.Intn(30)-1))
				}
				equal(t, what+": Add", tab.Add(more...), truth.add(more...))
			}
			equal(t, what+": Len", tab.Len(), len(truth.l))
			upright(t, what, tab.root)
			if step%10 == 9 {
				held(t, what, tab, truth.all())
			}
		}
	}
}
