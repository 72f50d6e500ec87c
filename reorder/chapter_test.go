package reorder

import (
	"math"
	"slices"
	"testing"

	"typecase/api"
)

// most is the greatest number of elements of a list for which the document promises something (R8).
const most = 1 << 16

// clampByChapter returns the level that the chapter takes for the given one.
func clampByChapter(level int) int {
	switch {
	case level < 0:
		return 0
	case level > 126:
		return 126
	}
	return level
}

// clamped returns the levels that the chapter takes for the given ones.
func clamped(levels []int) []int {
	var all []int
	for _, level := range levels {
		all = append(all, clampByChapter(level))
	}
	return all
}

// roundsByChapter returns the levels for which the chapter carries out rounds, in their order.
func roundsByChapter(levels []int) []int {
	all := clamped(levels)
	slices.Sort(all)
	odd := slices.IndexFunc(all, func(level int) bool { return level%2 != 0 })
	if odd < 0 {
		return nil
	}
	var rounds []int
	for level := all[len(all)-1]; level >= all[odd]; level-- {
		rounds = append(rounds, level)
	}
	return rounds
}

// roundByRound carries out the chapter's rounds, position by position, and counts the ranges that they reverse.
func roundByRound(levels []int) (order []int, turns int) {
	all := clamped(levels)
	for i := range all {
		order = append(order, i)
	}
	for _, level := range roundsByChapter(levels) {
		before := slices.Clone(order)
		for from := 0; from < len(all); from++ {
			if all[from] < level {
				continue
			}
			to := from
			for to < len(all) && all[to] >= level {
				to++
			}
			for i := from; i < to; i++ {
				order[i] = before[from+to-1-i]
			}
			turns++
			from = to
		}
	}
	return order, turns
}

// placesByLeast returns the visual index of each position without any round: as many rounds reverse a range with both of two positions as there are levels from the least odd one up to the least level from the one to the other, so these two change sides if that level is odd.
func placesByLeast(levels []int) []int {
	all := clamped(levels)
	places := make([]int, len(all))
	for i := range all {
		least := all[i]
		for j := i + 1; j < len(all); j++ {
			least = min(least, all[j])
			if least%2 == 0 {
				places[j]++
			} else {
				places[i]++
			}
		}
	}
	return places
}

// runsByChapter returns what Runs is asked for: the maximal ranges, sorted by the place of their first position.
func runsByChapter(levels []int) []api.Span {
	all := clamped(levels)
	order, _ := roundByRound(levels)
	places := inverse(order)
	var runs []api.Span
	for from := 0; from < len(all); {
		to := from
		for to < len(all) && all[to] == all[from] {
			to++
		}
		runs = append(runs, api.Span{From: from, To: to, Val: all[from]})
		from = to
	}
	slices.SortFunc(runs, func(a, b api.Span) int { return places[a.From] - places[b.From] })
	return runs
}

// turnsByPosition returns what Turns is asked for: a position begins a range of each round that it is in while the position before it isn't.
func turnsByPosition(levels []int) int {
	turns := 0
	for _, level := range roundsByChapter(levels) {
		before := false
		for _, own := range clamped(levels) {
			within := own >= level
			if within && !before {
				turns++
			}
			before = within
		}
	}
	return turns
}

// isByChapter tells whether each number from 0 up to the length is in the list: then it is there once.
func isByChapter(order []int) bool {
	for i := range order {
		if !slices.Contains(order, i) {
			return false
		}
	}
	return true
}

// inverse returns the inverse of a permutation.
func inverse(order []int) []int {
	back := make([]int, len(order))
	for place, i := range order {
		back[i] = place
	}
	return back
}

// readable is the length up to which each two positions are also held against each other.
const readable = 600

// holds checks all calls about the levels against the chapter, and its consequences.
func holds(t *testing.T, levels []int) {
	t.Helper()
	order, turns := roundByRound(levels)
	visual, logical := Visual(levels), Logical(levels)
	if !slices.Equal(visual, order) {
		t.Fatalf("Visual(%v) = %v, round by round %v", levels, visual, order)
	}
	if !slices.Equal(logical, inverse(order)) {
		t.Fatalf("Logical(%v) = %v, round by round %v", levels, logical, inverse(order))
	}
	if len(levels) <= readable && !slices.Equal(logical, placesByLeast(levels)) {
		t.Fatalf("Logical(%v) = %v, by the least levels %v", levels, logical, placesByLeast(levels))
	}
	if got, want := Runs(levels), runsByChapter(levels); !slices.Equal(got, want) {
		t.Fatalf("Runs(%v) = %v, not %v", levels, got, want)
	}
	if got := Turns(levels); got != turns || got != turnsByPosition(levels) {
		t.Fatalf("Turns(%v) = %d, round by round %d, position by position %d", levels, got, turns, turnsByPosition(levels))
	}
	sound(t, levels, visual, logical)
}

// sound checks what P17.6 to P17.8 tell about the two orders.
func sound(t *testing.T, levels, visual, logical []int) {
	t.Helper()
	if len(visual) != len(levels) || len(logical) != len(levels) || !Is(visual) || !Is(logical) {
		t.Fatalf("%v: %v and %v are no permutations", levels, visual, logical)
	}
	all := clamped(levels)
	for i, level := range all {
		if visual[logical[i]] != i || logical[visual[i]] != i {
			t.Fatalf("%v: %v and %v aren't inverse", levels, visual, logical)
		}
		step := 1 - 2*(level%2)
		if i > 0 && level == all[i-1] && logical[i] != logical[i-1]+step {
			t.Fatalf("%v: the indices %d and %d of two positions of level %d", levels, logical[i-1], logical[i], level)
		}
	}
}

// numbered returns the numbers from 0 up to n.
func numbered(n int) []int {
	list := make([]int, n)
	for i := range list {
		list[i] = i
	}
	return list
}

// backward returns the list turned round.
func backward(list []int) []int {
	list = slices.Clone(list)
	slices.Reverse(list)
	return list
}

// strangeLevels are numbers below and above the chapter's levels.
func strangeLevels() []int {
	return []int{math.MinInt, math.MinInt + 1, -1<<32 + 1, -1 << 32, -256, -255, -127, -126, -125, -3, -2, -1, 127, 128, 129, 253, 255, 256, 257, 1 << 31, 1<<32 + 1, 1<<32 + 3, math.MaxInt - 1, math.MaxInt}
}

// lists calls visit with each list of at most longest of the given numbers.
func lists(longest int, among []int, visit func(list []int)) {
	count := 1
	for size := range longest + 1 {
		for code := range count {
			list := make([]int, size)
			for i := range list {
				list[i] = among[code%len(among)]
				code /= len(among)
			}
			visit(list)
		}
		count *= len(among)
	}
}

// stream returns a function that returns numbers from 0 up to n, the same ones each time.
func stream() func(n int) int {
	state := uint64(1)
	return func(n int) int {
		state = state*6364136223846793005 + 1442695040888963407
		return int(state >> 33 % uint64(n))
	}
}

// some returns a list of n numbers in which few of the given ones occur often, each in a row of up to longest.
func some(next func(int) int, n, longest int, among []int) []int {
	few := 1 + next(len(among))
	list := make([]int, 0, n)
	for len(list) < n {
		level := among[next(few)]
		if next(3) == 0 {
			level = among[next(len(among))]
		}
		for range min(1+next(longest), n-len(list)) {
			list = append(list, level)
		}
	}
	return list
}

// walk returns a list of n levels from 0 to highest, each of which differs by at most step from the one before it.
func walk(next func(int) int, n, step, highest int) []int {
	list := make([]int, n)
	level := next(highest + 1)
	for i := range list {
		list[i] = level
		level = min(max(level+next(2*step+1)-step, 0), highest)
	}
	return list
}

// spoil writes to all memory of the list, also to the room behind it.
func spoil[T any](list []T, with T) {
	for i := range list[:cap(list)] {
		list[:cap(list)][i] = with
	}
}
