package chunklog

import (
	"slices"
	"strings"
)

// pool holds bodies that are added to and never written over, so that lists may share it: neither sees what the other one adds.
type pool struct{ bodies []string }

// list is bodies of records; it is never changed, each change makes another one.
type list struct {
	pool  *pool
	count int // how many of the pool's bodies are this one's
}

func (l list) bodies() []string {
	if l.pool == nil {
		return nil
	}
	return l.pool.bodies[:l.count]
}

// with makes it with more bodies at its end.
func (l list) with(more ...string) list {
	if l.pool == nil || len(l.pool.bodies) != l.count {
		// What stands behind its bodies in the pool is another one's.
		l.pool = &pool{slices.Clone(l.bodies())}
	}
	l.pool.bodies = append(l.pool.bodies, more...)
	l.count = len(l.pool.bodies)
	return l
}

// cut makes it with its first n bodies alone.
func (l list) cut(n int) list {
	if n < l.count {
		// The pool would keep what is cut off.
		l.pool = &pool{slices.Clone(l.bodies()[:n])}
	}
	l.count = n
	return l
}

// turned makes it with others in place of those from a number on.
func (l list) turned(from int, others []string) list {
	turned := slices.Clone(l.bodies())
	copy(turned[from:], others)
	l.pool = &pool{turned}
	return l
}

// clones makes texts that share no memory with these.
func clones(bodies []string) []string {
	var fresh []string
	for _, body := range bodies {
		fresh = append(fresh, strings.Clone(body))
	}
	return fresh
}
