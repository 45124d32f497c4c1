package rope

import (
	"slices"

	"rexmill/monoid"
)

const maxLeaf = 32 // symbols

// node is a leaf or an inner node of a tree; nil is the tree without symbols. Nodes do not change any more when they have a summary.
type node interface {
	length() int
}

// leaf is a piece of the text.
type leaf struct {
	symbols []int
	summary *monoid.Summary
}

// inner is two trees, one after the other.
type inner struct {
	left, right node
	size        int
	levels      int
	summary     *monoid.Summary
}

func (l *leaf) length() int {
	return len(l.symbols)
}

func (x *inner) length() int {
	return x.size
}

func size(n node) int {
	if n == nil {
		return 0
	}
	return n.length()
}

func height(n node) int {
	switch x := n.(type) {
	case *leaf:
		return 1
	case *inner:
		return x.levels
	}
	return 0
}

func summaryOf(n node) *monoid.Summary {
	switch x := n.(type) {
	case *leaf:
		return x.summary
	case *inner:
		return x.summary
	}
	return nil
}

func pair(left, right node) node {
	return &inner{left: left, right: right, size: size(left) + size(right), levels: 1 + max(height(left), height(right))}
}

// build returns a tree of as few leaves as possible, with about the same number of symbols each.
func build(symbols []int) node {
	leaves := (len(symbols) + maxLeaf - 1) / maxLeaf
	if leaves == 0 {
		return nil
	}
	if leaves == 1 {
		return &leaf{symbols: slices.Clone(symbols)}
	}
	half := len(symbols) * (leaves / 2) / leaves
	return pair(build(symbols[:half]), build(symbols[half:]))
}

// leafAt returns where the leaf that contains a position, or ends there, begins and ends.
func leafAt(n node, at int) [2]int {
	x, is := n.(*inner)
	if !is {
		return [2]int{0, size(n)}
	}
	half := size(x.left)
	if at <= half {
		return leafAt(x.left, at)
	}
	l := leafAt(x.right, at-half)
	return [2]int{half + l[0], half + l[1]}
}

// split divides a tree at a position between two leaves.
func split(n node, at int) (node, node) {
	if at <= 0 {
		return nil, n
	}
	x, is := n.(*inner)
	if !is || at >= size(n) {
		return n, nil
	}
	half := size(x.left)
	if at < half {
		l, r := split(x.left, at)
		return l, join(r, x.right)
	}
	l, r := split(x.right, at-half)
	return join(x.left, l), r
}

// join puts two trees one after the other: the lower one goes down to where the other one is about as high.
func join(a, b node) node {
	if a == nil {
		return b
	}
	if b == nil {
		return a
	}
	if x, is := a.(*inner); is && height(a) > height(b)+1 {
		return balanced(x.left, join(x.right, b))
	}
	if x, is := b.(*inner); is && height(b) > height(a)+1 {
		return balanced(join(a, x.left), x.right)
	}
	return pair(a, b)
}

// balanced puts two trees one after the other whose heights differ by at most 2.
func balanced(l, r node) node {
	if x, is := l.(*inner); is && height(l) > height(r)+1 {
		if y, is := x.right.(*inner); is && height(x.right) > height(x.left) {
			return pair(pair(x.left, y.left), pair(y.right, r))
		}
		return pair(x.left, pair(x.right, r))
	}
	if x, is := r.(*inner); is && height(r) > height(l)+1 {
		if y, is := x.left.(*inner); is && height(x.left) > height(x.right) {
			return pair(pair(l, y.left), pair(y.right, x.right))
		}
		return pair(pair(l, x.left), x.right)
	}
	return pair(l, r)
}
