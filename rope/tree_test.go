package rope

import (
	"slices"
	"testing"

	"typecase/api"
)

// power returns the least k with 2^k >= n.
func power(n int) int {
	k := 0
	for 1<<k < n {
		k++
	}
	return k
}

// bound returns the greatest height that the chapter allows a rope of n runes.
func bound(n int) int { return 4 + 2*power(n) }

// leastHeight returns the height that pieces of at most 64 runes give a rope of n runes at least.
func leastHeight(n int) int {
	if n == 0 {
		return 0
	}
	return 1 + power((n+63)/64)
}

// longest returns the chapter's height: how many nodes the longest way from the root to a piece has.
func longest(n *node) int {
	switch {
	case n == nil:
		return 0
	case n.left == nil && n.right == nil:
		return 1
	}
	return 1 + max(longest(n.left), longest(n.right))
}

// sound reports a rope whose tree is not as its remarks and the chapter say.
func sound(t *testing.T, x *Rope) {
	t.Helper()
	if n, h := x.Len(), x.Height(); h != longest(x.tree) || h < leastHeight(n) || h > bound(n) {
		t.Fatalf("Height of %d runes = %d; its longest way has %d nodes", n, h, longest(x.tree))
	}
	if x.tree != nil {
		soundTree(t, x.tree)
	}
}

func soundTree(t *testing.T, n *node) {
	t.Helper()
	if n.height == 1 {
		if n.size != len(n.text) || n.size < 1 || n.size > 64 || n.left != nil || n.right != nil {
			t.Fatalf("a piece of size %d and %d runes", n.size, len(n.text))
		}
		return
	}
	soundTree(t, n.left)
	soundTree(t, n.right)
	a, b := n.left, n.right
	if n.size != a.size+b.size || n.height != 1+max(a.height, b.height) || len(n.text) != 0 {
		t.Fatalf("size %d and height %d, of %d, %d and %d, %d", n.size, n.height, a.size, a.height, b.size, b.height)
	}
	if a.height > b.height+1 || b.height > a.height+1 || n.height == 2 && n.size <= 64 {
		t.Fatalf("heights %d and %d, sizes %d and %d", a.height, b.height, a.size, b.size)
	}
}

// steady reports a rope that is higher than the chapter allows, and now and then one whose tree is not as it has to be.
func steady(t *testing.T, x *Rope, step int) {
	t.Helper()
	if n, h := x.Len(), x.Height(); h > bound(n) || h < leastHeight(n) {
		t.Fatalf("step %d: height %d of %d runes", step, h, n)
	}
	if step%997 == 0 {
		sound(t, x)
	}
}

// fill inserts runes one by one, from 0 on, at the places that where tells, until the rope is full.
func fill(t *testing.T, where func(n int) int) *Rope {
	t.Helper()
	x := rope(t, nil)
	for n := range api.MaxDoc {
		y, e := x.Insert(where(n), []rune{rune(n)})
		if e != api.OK {
			t.Fatalf("the rune of number %d: %v", n, e)
		}
		x = y
		steady(t, x, n)
	}
	if y, e := x.Insert(0, []rune{1}); y != nil || e != api.ErrFull {
		t.Fatal(e)
	}
	return x
}

// empty deletes runes one by one at the places that where tells.
func empty(t *testing.T, x *Rope, where func(n int) int) {
	t.Helper()
	for n := x.Len(); n > 0; n-- {
		at := where(n)
		y, e := x.Delete(at, at+1)
		if e != api.OK || y.Len() != n-1 {
			t.Fatalf("one of %d runes: %v", n, e)
		}
		x = y
		steady(t, x, n)
	}
	if x.Height() != 0 || x.Len() != 0 {
		t.Errorf("height %d of %d runes", x.Height(), x.Len())
	}
}

func TestP6_6HeightOfSingleRunes(t *testing.T) {
	pick := stream()
	front := fill(t, func(n int) int { return 0 })
	back := fill(t, func(n int) int { return n })
	middle := fill(t, func(n int) int { return n / 2 })
	ends := fill(t, func(n int) int { return n * (n % 2) })
	near := fill(t, func(n int) int { return n * 2 / 3 })
	anywhere := fill(t, func(n int) int { return pick(n + 1) })
	for i := range api.MaxDoc {
		first, _ := front.At(i)
		last, _ := back.At(i)
		if first != rune(api.MaxDoc-1-i) || last != rune(i) {
			t.Fatal(i, first, last)
		}
	}
	empty(t, front, func(n int) int { return 0 })
	empty(t, back, func(n int) int { return n - 1 })
	empty(t, middle, func(n int) int { return n / 2 })
	empty(t, ends, func(n int) int { return (n - 1) * (n % 2) })
	empty(t, near, func(n int) int { return n / 3 })
	empty(t, anywhere, func(n int) int { return pick(n) })
}

// A rope of whose pieces but one rune each is left has many small parts to put together.
func TestP6_6HeightOfThinnedRopes(t *testing.T) {
	for _, gap := range []int{1, 3, 17, 32, 63, 64, 65, 200} {
		x := rope(t, text(api.MaxDoc, 0))
		var want []rune
		for from := api.MaxDoc / (gap + 1) * (gap + 1); from >= 0; from -= gap + 1 {
			to := min(from+gap, api.MaxDoc)
			y, e := x.Delete(from, to)
			if e != api.OK {
				t.Fatal(from, to, e)
			}
			x = y
			if to < api.MaxDoc {
				want = append(want, rune(to))
			}
			steady(t, x, from)
		}
		slices.Reverse(want)
		holds(t, x, want, "a thinned rope", gap)
	}
}

func TestP6_6HeightOfMixedEdits(t *testing.T) {
	pick := stream()
	v := version{rope(t, nil), nil}
	for range 8000 {
		v = change(t, v, pick)
		holds(t, v.rope, v.text, "an edit")
	}
}

// thin returns a tree of pieces of few runes that is as low as it has to be on one side only, down to the given height.
func thin(height int, left bool, first rune) *node {
	switch {
	case height < 1:
		return nil
	case height == 1:
		return build(text(40, first))
	}
	a, b := height-1, max(height-2, 1)
	if left {
		a, b = b, a
	}
	head := thin(a, left, first)
	return pair(head, thin(b, left, first+rune(head.size)))
}

// count returns the number of pieces of the tree.
func count(n *node) int {
	if n == nil || n.height == 1 {
		return min(size(n), 1)
	}
	return count(n.left) + count(n.right)
}

// join has to put any two trees together, and without more pieces than they have.
func joins(t *testing.T, trees []*node) {
	t.Helper()
	for i, a := range trees {
		for j, b := range trees {
			x := &Rope{join(a, b)}
			holds(t, x, slices.Concat((&Rope{a}).Text(), (&Rope{b}).Text()), "join", i, j)
			if count(x.tree) > count(a)+count(b) {
				t.Fatalf("trees %d and %d: %d pieces, from %d and %d", i, j, count(x.tree), count(a), count(b))
			}
		}
	}
}

func TestP6_6HeightOfJoinedTrees(t *testing.T) {
	trees := []*node{nil, build(text(1, 0)), build(text(24, 0)), build(text(64, 0)), build(text(65, 0)), build(text(1000, 0))}
	for height := range 9 {
		trees = append(trees, thin(height, true, 0), thin(height, false, 0))
	}
	pick := stream()
	v := version{rope(t, nil), nil}
	for i := range 600 {
		v = change(t, v, pick)
		if i%15 == 0 {
			trees = append(trees, v.rope.tree)
		}
	}
	joins(t, trees)
}

// Of low trees all are joined, since pieces that become one where parts are turned make the tree lower than turns do.
func TestP6_6HeightOfJoinedLowTrees(t *testing.T) {
	var low [4][]*node
	for i, n := range []int{1, 20, 40, 64} {
		low[1] = append(low[1], build(text(n, rune(100*i))))
	}
	for height := 2; height <= 3; height++ {
		for _, a := range slices.Concat(low[height-1], low[height-2]) {
			for _, b := range slices.Concat(low[height-1], low[height-2]) {
				if n := pair(a, b); n.height == height {
					low[height] = append(low[height], n)
				}
			}
		}
	}
	joins(t, slices.Concat(low[1], low[2], low[3]))
}

// Small edits leave pieces that are filled by a third at least.
func TestPiecesAreFilled(t *testing.T) {
	pick := stream()
	for _, x := range []*Rope{fill(t, func(n int) int { return 0 }), fill(t, func(n int) int { return n / 2 }), fill(t, func(n int) int { return pick(n + 1) })} {
		for range 20 {
			if pieces := count(x.tree); pieces > 1+3*x.Len()/64 {
				t.Fatalf("%d pieces of %d runes", pieces, x.Len())
			}
			for range 3000 {
				at := pick(x.Len())
				x, _ = x.Delete(at, at+1)
			}
		}
	}
}
