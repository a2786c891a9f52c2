package index

import (
	"encoding/binary"
	"fmt"
	"hash/crc32"
	"slices"
	"testing"

	"chronicle/api"
	"chronicle/memtab"
)

const most = 1 << 40 // the greatest number of an entry that is laid

func equal[T comparable](t *testing.T, what string, got, want T) {
	t.Helper()
	if got != want {
		t.Errorf("%s: %.300s, not %.300s", what, fmt.Sprintf("%#v", got), fmt.Sprintf("%#v", want))
	}
}

func alike[T comparable](t *testing.T, what string, got, want []T) {
	t.Helper()
	if !slices.Equal(got, want) {
		t.Errorf("%s: %d %.300s, not %d %.300s", what, len(got), fmt.Sprintf("%v", got), len(want), fmt.Sprintf("%v", want))
	}
}

// e is an entry in few letters.
func e(hash, version, pos int) memtab.Entry {
	return memtab.Entry{Hash: hash, Version: version, Pos: pos}
}

// some has so many entries, several of a hash, some of a version, in no order.
func some(n int) []memtab.Entry {
	var l []memtab.Entry
	for k := range n {
		at := k * 37 % 1009
		l = append(l, e(at%3*2, at/3%7, at))
	}
	return l
}

func order(a, b memtab.Entry) int {
	return slices.Compare([]int{a.Hash, a.Version, a.Pos}, []int{b.Hash, b.Version, b.Pos})
}

func sorted(l []memtab.Entry) []memtab.Entry {
	l = slices.Clone(l)
	slices.SortFunc(l, order)
	return l
}

func only(l []memtab.Entry, is func(memtab.Entry) bool) []memtab.Entry {
	return slices.DeleteFunc(slices.Clone(l), func(entry memtab.Entry) bool { return !is(entry) })
}

// plain is an index written down plainly: what is in memory, and of each level the tables.
type plain struct {
	room, most int
	mem        []memtab.Entry
	levels     [][][]memtab.Entry
}

func (p *plain) all() []memtab.Entry {
	all := slices.Clone(p.mem)
	for _, level := range p.levels {
		all = append(all, slices.Concat(level...)...)
	}
	return sorted(all)
}

func (p *plain) add(l ...memtab.Entry) int {
	added := 0
	for _, entry := range l {
		if entry.Hash < 0 || entry.Version < 0 || entry.Pos < 0 || slices.Contains(p.all(), entry) {
			continue
		}
		added++
		if p.mem = append(p.mem, entry); len(p.mem) >= p.room {
			p.flush()
		}
	}
	return added
}

func (p *plain) push(k int, table []memtab.Entry) {
	for len(p.levels) <= k {
		p.levels = append(p.levels, nil)
	}
	p.levels[k] = append(p.levels[k], sorted(table))
}

func (p *plain) flush() bool {
	if len(p.mem) == 0 {
		return false
	}
	p.push(0, p.mem)
	p.mem = nil
	for {
		k := slices.IndexFunc(p.levels, func(level [][]memtab.Entry) bool { return len(level) >= p.most })
		if k < 0 {
			return true
		}
		all := slices.Concat(p.levels[k]...)
		p.levels[k] = nil
		p.push(k+1, all)
	}
}

func (p *plain) merge() bool {
	tables := 0
	for _, level := range p.levels {
		tables += len(level)
	}
	if tables <= 1 && len(p.mem) == 0 {
		return false
	}
	p.levels, p.mem = [][][]memtab.Entry{{p.all()}}, nil
	return true
}

func (p *plain) cut(pos int) int {
	ahead := func(entry memtab.Entry) bool { return entry.Pos < pos }
	before := len(p.all())
	p.mem = only(p.mem, ahead)
	for k, level := range p.levels {
		p.levels[k] = nil
		for _, table := range level {
			if kept := only(table, ahead); len(kept) > 0 {
				p.levels[k] = append(p.levels[k], kept)
			}
		}
	}
	for len(p.levels) > 0 && len(p.levels[len(p.levels)-1]) == 0 {
		p.levels = p.levels[:len(p.levels)-1]
	}
	return before - len(p.all())
}

func (p *plain) counts() []int {
	var counts []int
	for _, level := range p.levels {
		counts = append(counts, len(level))
	}
	return counts
}

// sealed is a text behind its sum, reckoned without the project's packages.
func sealed(s string) string {
	return string(binary.BigEndian.AppendUint32(nil, crc32.ChecksumIEEE([]byte(s)))) + s
}

// text is a text behind its length.
func text(s string) string {
	return string(binary.BigEndian.AppendUint32(nil, uint32(len(s)))) + s
}

// tableOf has the bytes of a table of entries in just this order, behind their length.
func tableOf(l ...memtab.Entry) string {
	b := binary.BigEndian.AppendUint32([]byte("PTAB"), uint32(len(l)))
	for _, entry := range l {
		for _, v := range []int{entry.Hash, entry.Version, entry.Pos} {
			b = binary.BigEndian.AppendUint64(b, uint64(v))
		}
	}
	return text(sealed(string(b)))
}

// bytes has the bytes of the index, whether Save may lay it or not.
func (p *plain) bytes() string {
	b := string([]byte{byte(len(p.levels))})
	for _, level := range p.levels {
		b += string([]byte{byte(len(level))})
		for _, table := range level {
			b += tableOf(table...)
		}
	}
	return sealed(b + tableOf(sorted(p.mem)...))
}

// loaded is the index of a plain one's bytes.
func (p *plain) loaded(t *testing.T) *Index {
	t.Helper()
	x, err := Load(p.bytes(), p.room, p.most)
	if err != api.OK {
		t.Fatalf("Load of %v: %v", p.counts(), err)
	}
	return x
}

// stands holds where an index has its entries: how many are in memory, and how many tables each level has.
func stands(t *testing.T, what string, x *Index, mem int, levels ...int) {
	t.Helper()
	equal(t, what+": Mem", x.Mem(), mem)
	alike(t, what+": Levels", x.Levels(), levels)
}

// saves holds what Save tells against bytes.
func saves(t *testing.T, what string, x *Index, want string) {
	t.Helper()
	b, err := x.Save()
	equal(t, what+": Save's error", err, api.OK)
	equal(t, what+": Save", b, want)
}

// saveFails holds that Save tells an error, and no bytes beside it.
func saveFails(t *testing.T, what string, x *Index, want api.Errno) {
	t.Helper()
	b, err := x.Save()
	equal(t, what+": Save's error", err, want)
	equal(t, what+": bytes beside it", b, "")
}

// same holds an index against a plain one, in each table.
func same(t *testing.T, what string, x *Index, p *plain) {
	t.Helper()
	stands(t, what, x, len(p.mem), p.counts()...)
	equal(t, what+": Len", x.Len(), len(p.all()))
	saves(t, what, x, p.bytes())
}

// held holds all that is asked of the entries of an index against entries in order, for the hashes and versions that are handed in.
func held(t *testing.T, what string, x *Index, want []memtab.Entry, numbers []int) {
	t.Helper()
	equal(t, what+": Len", x.Len(), len(want))
	for _, hash := range numbers {
		of := only(want, func(entry memtab.Entry) bool { return entry.Hash == hash })
		last, is := x.Last(hash)
		equal(t, fmt.Sprint(what, ": whether there is a Last of ", hash), is, len(of) > 0)
		equal(t, fmt.Sprint(what, ": Last of ", hash), last, append(slices.Clip(of), memtab.Entry{})[max(len(of)-1, 0)])
		for _, from := range numbers {
			var places []int
			for _, entry := range only(of, func(entry memtab.Entry) bool { return entry.Version == from }) {
				places = append(places, entry.Pos)
			}
			alike(t, fmt.Sprint(what, ": Find of ", hash, " ", from), x.Find(hash, from), places)
			for _, to := range numbers {
				among := only(of, func(entry memtab.Entry) bool { return from <= entry.Version && entry.Version < to })
				alike(t, fmt.Sprint(what, ": Range of ", hash, " ", from, " ", to), x.Range(hash, from, to), among)
			}
		}
	}
}

// few are the hashes and versions in and beside those of few entries.
func few() []int { return []int{-2, -1, 0, 1, 2, 3, 4, 5, 6, 7, 8} }
