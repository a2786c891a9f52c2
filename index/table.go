package index

import (
	"math"
	"slices"

	"chronicle/memtab"
)

// table has entries that rise, and is never written to. It is no ptable.Table, since memory takes greater numbers than such a one can have.
type table []memtab.Entry

// compare has the order of memtab.Less.
func compare(a, b memtab.Entry) int {
	switch {
	case a == b:
		return 0
	case memtab.Less(a, b):
		return -1
	}
	return 1
}

// merged makes the table of the entries of several.
func merged(l ...table) table {
	all := slices.Concat(l...)
	slices.SortFunc(all, compare)
	return all
}

// place tells how many entries stand ahead of one, by halves; whether it is there itself.
func (t table) place(e memtab.Entry) (int, bool) {
	return slices.BinarySearchFunc(t, e, compare)
}

func (t table) has(e memtab.Entry) bool {
	_, is := t.place(e)
	return is
}

// versions tells the entries of a hash from one version on, through another one that is not ahead of it, as they stand in the table.
func (t table) versions(hash, first, last int) table {
	from, _ := t.place(memtab.Entry{Hash: hash, Version: first})
	to, is := t.place(memtab.Entry{Hash: hash, Version: last, Pos: math.MaxInt})
	if is {
		to++
	}
	return t[from:to]
}

// last tells the last entry of a hash.
func (t table) last(hash int) (memtab.Entry, bool) {
	of := t.versions(hash, 0, math.MaxInt)
	if len(of) == 0 {
		return memtab.Entry{}, false
	}
	return of[len(of)-1], true
}

// below makes the table of the entries whose Pos is below a place.
func (t table) below(pos int) table {
	var kept table
	for _, e := range t {
		if e.Pos < pos {
			kept = append(kept, e)
		}
	}
	return kept
}
