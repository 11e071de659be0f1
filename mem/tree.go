package mem

import (
	"caisson/api"
	"caisson/codec"
)

// node is a tree of entries in order: on its left side those ahead of its own, on its right side those behind. Of no node's two sides one has more than one level more than the other, so that a search takes few steps, in whatever order entries came. A node is never changed: what a Put made is let go, if a later entry of it is refused.
type node struct {
	entry       *api.Entry
	left, right *node
	levels      int
}

// height: how many levels a tree has; nil is the empty one.
func (n *node) height() int {
	if n == nil {
		return 0
	}
	return n.levels
}

// join: the tree of both sides and what stands between them.
func join(left *node, x *api.Entry, right *node) *node {
	return &node{entry: x, left: left, right: right, levels: 1 + max(left.height(), right.height())}
}

// balance: as join, of sides of which one may have two levels more than the other.
func balance(left *node, x *api.Entry, right *node) *node {
	switch {
	case left.height() > right.height()+1:
		inner := left.right
		if left.left.height() >= inner.height() {
			return join(left.left, left.entry, join(inner, x, right))
		}
		return join(join(left.left, left.entry, inner.left), inner.entry, join(inner.right, x, right))
	case right.height() > left.height()+1:
		inner := right.left
		if right.right.height() >= inner.height() {
			return join(join(left, x, inner), right.entry, right.right)
		}
		return join(join(left, x, inner.left), inner.entry, join(inner.right, right.entry, right.right))
	}
	return join(left, x, right)
}

// with: the tree with x besides; or nil and true, if one with its key and Seq is there.
func (n *node) with(x *api.Entry) (*node, bool) {
	if n == nil {
		return join(nil, x, nil), false
	}
	switch {
	case Less(*x, *n.entry):
		left, there := n.left.with(x)
		if there {
			return nil, true
		}
		return balance(left, n.entry, n.right), false
	case Less(*n.entry, *x):
		right, there := n.right.with(x)
		if there {
			return nil, true
		}
		return balance(n.left, n.entry, right), false
	}
	return nil, true
}

// first: the first entry that doesn't stand ahead of x; nil, if all do.
func (n *node) first(x api.Entry) *api.Entry {
	var found *api.Entry
	for n != nil {
		if Less(*n.entry, x) {
			n = n.right
		} else {
			found, n = n.entry, n.left
		}
	}
	return found
}

// between: the list out, and behind it copies of the entries with keys from from on and below to.
func (n *node) between(out []api.Entry, from, to []byte) []api.Entry {
	if n == nil {
		return out
	}
	behind := codec.Cmp(n.entry.Key, from) >= 0
	ahead := len(to) == 0 || codec.Cmp(n.entry.Key, to) < 0
	if behind {
		out = n.left.between(out, from, to)
	}
	if behind && ahead {
		out = append(out, own(*n.entry))
	}
	if ahead {
		out = n.right.between(out, from, to)
	}
	return out
}
