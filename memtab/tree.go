package memtab

import "iter"

// node is an entry in a tree: ahead of it those of the left side, behind it those of the right one, and neither side is higher by more than one.
// It is never changed, so that tabs may share it: each change makes other nodes from its place up to the root.
type node struct {
	entry       Entry
	left, right *node
	high        int // how many nodes stand one below the other, at most
	count       int // how many nodes there are
}

func (n *node) len() int {
	if n == nil {
		return 0
	}
	return n.count
}

func (n *node) height() int {
	if n == nil {
		return 0
	}
	return n.high
}

// joined makes the node of an entry between two sides.
func joined(left *node, e Entry, right *node) *node {
	return &node{
		entry: e,
		left:  left,
		right: right,
		high:  max(left.height(), right.height()) + 1,
		count: left.len() + right.len() + 1,
	}
}

// balanced makes the tree of an entry between two sides of which one may be higher by two.
func balanced(left *node, e Entry, right *node) *node {
	switch {
	case left.height() > right.height()+1:
		if inner := left.right; inner.height() > left.left.height() {
			return joined(joined(left.left, left.entry, inner.left), inner.entry, joined(inner.right, e, right))
		}
		return joined(left.left, left.entry, joined(left.right, e, right))
	case right.height() > left.height()+1:
		if inner := right.left; inner.height() > right.right.height() {
			return joined(joined(left, e, inner.left), inner.entry, joined(inner.right, right.entry, right.right))
		}
		return joined(joined(left, e, right.left), right.entry, right.right)
	}
	return joined(left, e, right)
}

// with makes the tree in which an entry is, too.
func (n *node) with(e Entry) *node {
	switch {
	case n == nil:
		return joined(nil, e, nil)
	case n.entry == e:
		return n
	case Less(e, n.entry):
		return balanced(n.left.with(e), n.entry, n.right)
	}
	return balanced(n.left, n.entry, n.right.with(e))
}

// ofSorted makes the tree of entries that rise.
func ofSorted(l []Entry) *node {
	if len(l) == 0 {
		return nil
	}
	middle := len(l) / 2
	return joined(ofSorted(l[:middle]), l[middle], ofSorted(l[middle+1:]))
}

// lastUpTo tells the last node whose hash is not beyond one.
func (n *node) lastUpTo(hash int) *node {
	var last *node
	for n != nil {
		if n.entry.Hash > hash {
			n = n.left
		} else {
			last, n = n, n.right
		}
	}
	return last
}

// from goes through the entries that are not ahead of one, in order, as long as it is asked to; whether it came to the end.
func (n *node) from(first Entry, yield func(Entry) bool) bool {
	if n == nil {
		return true
	}
	if Less(n.entry, first) {
		return n.right.from(first, yield)
	}
	return n.left.from(first, yield) && yield(n.entry) && n.right.from(first, yield)
}

// from goes through the tab's entries that are not ahead of one, in order.
func (t *Tab) from(first Entry) iter.Seq[Entry] {
	return func(yield func(Entry) bool) {
		if t != nil {
			t.root.from(first, yield)
		}
	}
}
