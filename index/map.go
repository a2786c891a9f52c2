package index

import (
	"math"
	"slices"

	"chronicle/api"
	"chronicle/check"
	"chronicle/codec"
	"chronicle/ptable"
)

const (
	mostBytes = 60000
	mostCount = math.MaxUint8 // levels, and tables of one

	sumSize   = 4
	countSize = 1
	tableSize = 16 // bytes of a table of no entries, and of its length
	entrySize = 24
)

// Save tells an index's bytes.
func (x *Index) Save() (string, api.Errno) {
	if !x.made() {
		return "", api.ErrArg
	}
	if x.long() {
		return "", api.ErrLong
	}
	var o codec.Out
	o.U8(len(x.levels))
	for _, level := range x.levels {
		o.U8(len(level))
		if err := put(&o, level...); err != api.OK {
			return "", err
		}
	}
	if err := put(&o, x.mem.All()); err != api.OK {
		return "", err
	}
	laid, err := o.Done()
	if err != api.OK {
		return "", err
	}
	return check.Seal(laid), api.OK
}

// Load tells the index of bytes.
func Load(b string, room, most int) (*Index, api.Errno) {
	laid, err := check.Open(b)
	if err != api.OK {
		return nil, err
	}
	x := New(room, most)
	if len(b) > mostBytes || !x.read(codec.NewIn(laid)) {
		return nil, api.ErrForm
	}
	return x, api.OK
}

// long tells whether there is more than Save may lay.
func (x *Index) long() bool {
	wide := func(level []table) bool { return len(level) > mostCount }
	return x.size() > mostBytes || len(x.levels) > mostCount || slices.ContainsFunc(x.levels, wide)
}

// size tells how many bytes Save would lay; what is too long needn't be laid to be told of.
func (x *Index) size() int {
	tables := len(slices.Collect(x.tables())) + 1
	return sumSize + countSize + len(x.levels)*countSize + tables*tableSize + x.Len()*entrySize
}

// put lays tables.
func put(o *codec.Out, l ...table) api.Errno {
	for _, t := range l {
		b, err := ptable.Build(t...)
		if err != api.OK {
			return err
		}
		o.Text(b)
	}
	return api.OK
}

// read takes in what Save lays into an index that has nothing; whether it was just that.
func (x *Index) read(i *codec.In) bool {
	x.levels = make([][]table, i.U8())
	for k := range x.levels {
		for range i.U8() {
			t, is := next(i)
			if !is || len(t) == 0 {
				return false
			}
			x.levels[k] = append(x.levels[k], t)
		}
	}
	mem, is := next(i)
	x.mem.Add(mem...)
	return is && i.End() == api.OK && x.sound()
}

// next reads a table.
func next(i *codec.In) (table, bool) {
	t, err := ptable.Open(i.Text(mostBytes))
	return t.All(), err == api.OK
}

// sound tells whether the last level has a table, and no entry stands twice.
func (x *Index) sound() bool {
	if high := len(x.levels); high > 0 && len(x.levels[high-1]) == 0 {
		return false
	}
	all := x.all()
	count := len(all)
	return len(slices.Compact(all)) == count
}
