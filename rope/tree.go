package rope

import (
	"iter"
	"slices"
)

// pieceMax is how many runes a piece has at most.
const pieceMax = 64

// node is a tree that has runes: a piece of the text, or a node that joins two trees whose heights differ by 1 at most.
// Ropes share nodes, so that none is written to once it is made. A text without runes has no tree.
type node struct {
	size, height int
	text         []rune // of a piece
	left, right  *node  // of a node that joins them
}

// size returns the number of runes of the tree n.
func size(n *node) int {
	if n == nil {
		return 0
	}
	return n.size
}

// build returns the tree of the runes of t, of which it keeps nothing.
func build(t []rune) *node {
	switch half := len(t) / 2; {
	case len(t) == 0:
		return nil
	case len(t) > pieceMax:
		return pair(build(t[:half]), build(t[half:]))
	}
	return &node{size: len(t), height: 1, text: slices.Clone(t)}
}

// pair joins two trees whose heights differ by 1 at most. Pieces that fit into one become one.
func pair(a, b *node) *node {
	total := a.size + b.size
	// So few are the runes of two pieces only: a node that joins has more than fit into one.
	if total <= pieceMax {
		return build(slices.Concat(a.text, b.text))
	}
	return &node{size: total, height: max(a.height, b.height) + 1, left: a, right: b}
}

// join returns the tree of the runes of a and, behind them, those of b. Its height differs from the greater of theirs by 1 at most.
func join(a, b *node) *node {
	switch {
	case a == nil:
		return b
	case b == nil:
		return a
	case a.height > b.height+1:
		return balance(a.left, join(a.right, b))
	case b.height > a.height+1:
		return balance(join(a, b.left), b.right)
	}
	return pair(a, b)
}

// balance joins two trees whose heights differ by 2 at most.
func balance(a, b *node) *node {
	switch {
	case a.height > b.height+1 && a.left.height < a.right.height:
		return pair(pair(a.left, a.right.left), pair(a.right.right, b))
	case a.height > b.height+1:
		return pair(a.left, pair(a.right, b))
	case b.height > a.height+1 && b.right.height < b.left.height:
		return pair(pair(a, b.left.left), pair(b.left.right, b.right))
	case b.height > a.height+1:
		return pair(pair(a, b.left), b.right)
	}
	return pair(a, b)
}

// splice returns the tree n with t in the place of the runes in [from, to), which it has.
func splice(n *node, from, to int, t []rune) *node {
	switch {
	case from == to && len(t) == 0:
		return n
	case from == 0 && to == size(n):
		return build(t)
	case n.height == 1:
		return build(slices.Concat(n.text[:from], t, n.text[to:]))
	}
	half := n.left.size
	if from > half {
		return join(n.left, splice(n.right, from-half, to-half, t))
	}
	left := splice(n.left, from, min(to, half), t)
	right := splice(n.right, 0, max(to-half, 0), nil)
	return join(left, right)
}

// tail returns the runes of the tree n from index i, which it has, to the end of the piece that i is in.
func tail(n *node, i int) []rune {
	for n.height > 1 {
		if i < n.left.size {
			n = n.left
		} else {
			i -= n.left.size
			n = n.right
		}
	}
	return n.text[i:]
}

// runes iterates over those indices in [from, to) that the tree n has, and their runes.
func runes(n *node, from, to int) iter.Seq2[int, rune] {
	from, to = max(from, 0), min(to, size(n))
	return func(yield func(int, rune) bool) {
		// Inside, so that each loop over the iterator has a position of its own.
		at := from
		for at < to {
			for _, r := range tail(n, at) {
				if at == to || !yield(at, r) {
					return
				}
				at++
			}
		}
	}
}
