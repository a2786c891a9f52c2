package simdisk

import (
	"slices"
	"strings"
)

// pool holds bytes that are added to and never written over, so that files may share it: neither sees what the other one adds.
type pool struct{ bytes []byte }

// file is one file; it is never changed, each change makes another one.
type file struct {
	name   string
	pool   *pool
	size   int  // how many of the pool's bytes are this one's
	synced int  // how many of these are synced, the first ones
	lasts  bool // it was synced once, so that it stays also without bytes
}

// fresh makes a file without bytes.
func fresh(name string) *file {
	return &file{name: strings.Clone(name), pool: &pool{}}
}

func (f *file) bytes() []byte { return f.pool.bytes[:f.size] }

func (f *file) unsynced() int { return f.size - f.synced }

// with makes it with more bytes at its end.
func (f *file) with(data string) *file {
	more := *f
	if len(f.pool.bytes) != f.size {
		// What stands behind its bytes in the pool is another one's.
		more.pool = &pool{slices.Clone(f.bytes())}
	}
	more.pool.bytes = append(more.pool.bytes, data...)
	more.size += len(data)
	return &more
}

// cut makes it with its first n bytes alone.
func (f *file) cut(n int) *file {
	less := *f
	if n < f.size {
		// The pool would keep what is cut off.
		less.pool = &pool{slices.Clone(f.bytes()[:n])}
	}
	less.size, less.synced = n, min(f.synced, n)
	return &less
}

// lasting makes it with all its bytes synced.
func (f *file) lasting() *file {
	lasting := *f
	lasting.synced, lasting.lasts = f.size, true
	return &lasting
}

// named makes it with another name.
func (f *file) named(name string) *file {
	named := *f
	named.name = strings.Clone(name)
	return &named
}

// twin makes another one that is the same, and shares no memory with it.
func (f *file) twin() *file {
	twin := *f
	twin.pool = &pool{slices.Clone(f.bytes())}
	return &twin
}
