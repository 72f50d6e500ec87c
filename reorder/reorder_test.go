package reorder

import (
	"math"
	"slices"
	"strings"
	"testing"

	"typecase/api"
	"typecase/levels"
)

// handRow is a list of levels, a digit each, with its positions in visual order, the maximal ranges parted by spaces, and the number of ranges that are reversed, all written by hand.
type handRow struct {
	levels, order string
	turns         int
}

// digits returns the numbers that are written as digits.
func digits(text string) []int {
	var list []int
	for _, digit := range text {
		list = append(list, int(digit-'0'))
	}
	return list
}

// writtenRuns returns the ranges that the row tells, each with the level of its positions.
func (row handRow) writtenRuns() []api.Span {
	var runs []api.Span
	for _, group := range strings.Fields(row.order) {
		at := digits(group)
		runs = append(runs, api.Span{From: slices.Min(at), To: slices.Max(at) + 1, Val: digits(row.levels)[at[0]]})
	}
	return runs
}

func checkRows(t *testing.T, rows []handRow) {
	t.Helper()
	for _, row := range rows {
		gives(t, digits(row.levels), digits(strings.ReplaceAll(row.order, " ", "")), row.writtenRuns(), row.turns)
	}
}

// gives checks all calls about the levels against what is written by hand, and against the chapter.
func gives(t *testing.T, levels, order []int, runs []api.Span, turns int) {
	t.Helper()
	if got := Visual(levels); !slices.Equal(got, order) {
		t.Errorf("Visual(%v) = %v, not %v", levels, got, order)
	}
	if got := Logical(levels); !slices.Equal(got, inverse(order)) {
		t.Errorf("Logical(%v) = %v, not %v", levels, got, inverse(order))
	}
	if got := Runs(levels); !slices.Equal(got, runs) {
		t.Errorf("Runs(%v) = %v, not %v", levels, got, runs)
	}
	if got := Turns(levels); got != turns {
		t.Errorf("Turns(%v) = %d, not %d", levels, got, turns)
	}
	holds(t, levels)
}

func TestP17_1NoRound(t *testing.T) {
	checkRows(t, []handRow{
		{"", "", 0}, {"0", "0", 0}, {"2", "0", 0}, {"8", "0", 0},
		{"00", "01", 0}, {"2222", "0123", 0}, {"02", "0 1", 0}, {"20", "0 1", 0}, {"246", "0 1 2", 0}, {"642", "0 1 2", 0}, {"2442", "0 12 3", 0}, {"60402", "0 1 2 3 4", 0}, {"22022", "01 2 34", 0}, {"2022", "0 1 23", 0},
	})
}

func TestP17_1OneLevel(t *testing.T) {
	checkRows(t, []handRow{
		{"1", "0", 1}, {"3", "0", 1}, {"9", "0", 1}, {"11", "10", 1}, {"33", "10", 1}, {"111", "210", 1}, {"3333", "3210", 1}, {"555555555", "876543210", 1},
	})
}

func TestP17_1OneRound(t *testing.T) {
	checkRows(t, []handRow{
		{"01", "0 1", 1}, {"10", "0 1", 1}, {"011", "0 21", 1}, {"110", "10 2", 1}, {"0110", "0 21 3", 1}, {"010", "0 1 2", 1},
		{"101", "0 1 2", 2}, {"0101", "0 1 2 3", 2}, {"1101011", "10 2 3 4 65", 3}, {"110011011", "10 23 54 6 87", 3}, {"111000111", "210 345 876", 2},
		{"232", "0 1 2", 1}, {"2332", "0 21 3", 1}, {"45", "0 1", 1}, {"54", "0 1", 1}, {"05", "0 1", 1}, {"0550", "0 21 3", 1},
	})
}

func TestP17_1TwoRounds(t *testing.T) {
	checkRows(t, []handRow{
		{"12", "1 0", 2}, {"21", "1 0", 2}, {"122", "12 0", 2}, {"221", "2 01", 2}, {"1221", "3 12 0", 2}, {"2211", "32 01", 2}, {"1122", "23 10", 2}, {"1211", "32 1 0", 2}, {"11211", "43 2 10", 2},
		{"1212", "3 2 1 0", 3}, {"2112", "3 21 0", 3}, {"22122", "34 2 01", 3},
		{"210", "1 0 2", 2}, {"012", "0 2 1", 2}, {"0121", "0 3 2 1", 2}, {"0122100", "0 4 23 1 56", 2},
		{"20102", "0 1 2 3 4", 5}, {"20221", "0 1 4 23", 4}, {"220221", "01 2 5 34", 4},
		{"65", "1 0", 2}, {"2334", "0 3 21", 2}, {"4330", "21 0 3", 2},
	})
}

// Levels that stand in one another, that rise, and that fall.
func TestP17_1Nested(t *testing.T) {
	checkRows(t, []handRow{
		{"01234", "0 2 4 3 1", 4}, {"43210", "3 1 0 2 4", 4}, {"012343210", "0 7 2 5 4 3 6 1 8", 4}, {"432101234", "3 1 0 2 4 6 8 7 5", 8}, {"1234321", "6 1 4 3 2 5 0", 4},
		{"123", "1 2 0", 3}, {"321", "2 0 1", 3}, {"1233", "1 32 0", 3}, {"2343", "0 3 2 1", 2}, {"4354", "2 3 1 0", 4}, {"33133", "43 2 10", 5},
	})
}

// The least odd level is above some of the even ones, which no round takes along.
func TestP17_1HighOddLevel(t *testing.T) {
	checkRows(t, []handRow{
		{"23324", "0 21 3 4", 3}, {"0203340", "0 1 2 5 43 6", 2}, {"3053", "0 1 3 2", 4}, {"2022330", "0 1 23 54 6", 1}, {"4255", "0 1 32", 1}, {"25562", "0 3 21 4", 2},
	})
}

// A level that does not occur has a round, too, if it is between the others.
func TestP17_5Gaps(t *testing.T) {
	checkRows(t, []handRow{
		{"16", "1 0", 6}, {"61", "1 0", 6}, {"161", "2 1 0", 6}, {"616", "2 1 0", 11}, {"166", "12 0", 6}, {"15", "1 0", 5}, {"155", "21 0", 5}, {"13", "1 0", 3},
		{"3066", "0 1 23", 5}, {"1441", "3 12 0", 4}, {"1331", "3 21 0", 3}, {"03630", "0 3 2 1 4", 4}, {"1041", "0 1 3 2", 5}, {"38", "1 0", 6}, {"0819", "0 3 2 1", 16},
	})
}

// Levels above 9, up to the highest one.
func TestP17_1HighLevels(t *testing.T) {
	for _, c := range []struct {
		levels, order []int
		runs          []api.Span
		turns         int
	}{
		{[]int{125}, []int{0}, []api.Span{{From: 0, To: 1, Val: 125}}, 1},
		{[]int{126}, []int{0}, []api.Span{{From: 0, To: 1, Val: 126}}, 0},
		{[]int{125, 125}, []int{1, 0}, []api.Span{{From: 0, To: 2, Val: 125}}, 1},
		{[]int{126, 126}, []int{0, 1}, []api.Span{{From: 0, To: 2, Val: 126}}, 0},
		{[]int{126, 125}, []int{1, 0}, []api.Span{{From: 1, To: 2, Val: 125}, {From: 0, To: 1, Val: 126}}, 2},
		{[]int{125, 126, 125}, []int{2, 1, 0}, []api.Span{{From: 2, To: 3, Val: 125}, {From: 1, To: 2, Val: 126}, {From: 0, To: 1, Val: 125}}, 2},
		{[]int{125, 126, 126}, []int{1, 2, 0}, []api.Span{{From: 1, To: 3, Val: 126}, {From: 0, To: 1, Val: 125}}, 2},
		{[]int{124, 125, 126}, []int{0, 2, 1}, []api.Span{{From: 0, To: 1, Val: 124}, {From: 2, To: 3, Val: 126}, {From: 1, To: 2, Val: 125}}, 2},
		{[]int{1, 126}, []int{1, 0}, []api.Span{{From: 1, To: 2, Val: 126}, {From: 0, To: 1, Val: 1}}, 126},
		{[]int{1, 126, 126}, []int{1, 2, 0}, []api.Span{{From: 1, To: 3, Val: 126}, {From: 0, To: 1, Val: 1}}, 126},
		{[]int{1, 125, 125}, []int{2, 1, 0}, []api.Span{{From: 1, To: 3, Val: 125}, {From: 0, To: 1, Val: 1}}, 125},
		{[]int{125, 1, 126}, []int{2, 1, 0}, []api.Span{{From: 2, To: 3, Val: 126}, {From: 1, To: 2, Val: 1}, {From: 0, To: 1, Val: 125}}, 250},
		{[]int{0, 125, 0, 126}, []int{0, 1, 2, 3}, []api.Span{{From: 0, To: 1, Val: 0}, {From: 1, To: 2, Val: 125}, {From: 2, To: 3, Val: 0}, {From: 3, To: 4, Val: 126}}, 3},
		{[]int{10, 11, 11, 100}, []int{0, 3, 2, 1}, []api.Span{{From: 0, To: 1, Val: 10}, {From: 3, To: 4, Val: 100}, {From: 1, To: 3, Val: 11}}, 90},
	} {
		gives(t, c.levels, c.order, c.runs, c.turns)
	}
}

func TestP17_1Clamped(t *testing.T) {
	for _, c := range []struct {
		levels, order []int
		runs          []api.Span
		turns         int
	}{
		{[]int{-1}, []int{0}, []api.Span{{From: 0, To: 1, Val: 0}}, 0},
		{[]int{127}, []int{0}, []api.Span{{From: 0, To: 1, Val: 126}}, 0},
		{[]int{-5, 200}, []int{0, 1}, []api.Span{{From: 0, To: 1, Val: 0}, {From: 1, To: 2, Val: 126}}, 0},
		{[]int{-3, -1, 0, math.MinInt}, []int{0, 1, 2, 3}, []api.Span{{From: 0, To: 4, Val: 0}}, 0},
		{[]int{126, 127, 129, math.MaxInt}, []int{0, 1, 2, 3}, []api.Span{{From: 0, To: 4, Val: 126}}, 0},
		{[]int{127, 1, 127}, []int{2, 1, 0}, []api.Span{{From: 2, To: 3, Val: 126}, {From: 1, To: 2, Val: 1}, {From: 0, To: 1, Val: 126}}, 251},
		{[]int{1, math.MaxInt, 200}, []int{1, 2, 0}, []api.Span{{From: 1, To: 3, Val: 126}, {From: 0, To: 1, Val: 1}}, 126},
		{[]int{-7, 1, 1, math.MinInt}, []int{0, 2, 1, 3}, []api.Span{{From: 0, To: 1, Val: 0}, {From: 1, To: 3, Val: 1}, {From: 3, To: 4, Val: 0}}, 1},
		{[]int{125, 127}, []int{1, 0}, []api.Span{{From: 1, To: 2, Val: 126}, {From: 0, To: 1, Val: 125}}, 2},
		{[]int{1<<32 + 1, -1<<32 + 1, 257, -255}, []int{0, 1, 2, 3}, []api.Span{{From: 0, To: 1, Val: 126}, {From: 1, To: 2, Val: 0}, {From: 2, To: 3, Val: 126}, {From: 3, To: 4, Val: 0}}, 0},
	} {
		gives(t, c.levels, c.order, c.runs, c.turns)
	}
	for _, level := range strangeLevels() {
		for _, among := range [][]int{{}, {0}, {1}, {2}, {125}, {126}, {1, 2}, {125, 126}} {
			holds(t, append([]int{level, level}, among...))
			holds(t, append(slices.Clone(among), level))
			holds(t, slices.Concat(among, []int{level}, among, []int{level}))
		}
	}
}

// Each level by itself, beside each other one, and between two of it.
func TestP17_1EveryLevel(t *testing.T) {
	for level := -2; level <= 129; level++ {
		holds(t, []int{level})
		for other := -2; other <= 129; other++ {
			holds(t, []int{level, other})
			holds(t, []int{level, other, other, level})
		}
	}
}

func TestP17_1ShortLists(t *testing.T) {
	check := func(levels []int) { holds(t, levels) }
	lists(8, []int{0, 1, 2, 3}, check)
	lists(10, []int{1, 2}, check)
	lists(10, []int{0, 1}, check)
	lists(6, []int{0, 1, 2, 3, 4, 5}, check)
	lists(4, []int{math.MinInt, -1, 0, 1, 2, 124, 125, 126, 127, math.MaxInt}, check)
}

func TestP17_1LongLists(t *testing.T) {
	next := stream()
	all := append(numbered(127), strangeLevels()...)
	for range 1500 {
		holds(t, some(next, next(100), 1, []int{0, 1, 2, 3, 4, 5, 6}))
		holds(t, some(next, next(100), 8, []int{1, 2, 0, 4, 3}))
		holds(t, some(next, next(60), 3, all))
		holds(t, walk(next, next(100), 1, 126))
		holds(t, walk(next, next(100), 2, 8))
	}
}

// Logical differs from Visual where the order is not its own inverse.
func TestP17_2(t *testing.T) {
	for _, c := range []struct{ levels, want string }{
		{"", ""}, {"0", "0"}, {"1", "0"}, {"011", "021"}, {"210", "102"}, {"122", "201"}, {"221", "120"}, {"1122", "3201"}, {"2211", "2310"}, {"01234", "04132"}, {"43210", "21304"}, {"22122", "34201"}, {"220221", "012453"}, {"25562", "03214"},
	} {
		if got := Logical(digits(c.levels)); !slices.Equal(got, digits(c.want)) {
			t.Errorf("Logical(%s) = %v, not %s", c.levels, got, c.want)
		}
	}
}

func TestP17_3(t *testing.T) {
	for _, c := range []struct {
		levels []int
		want   []api.Span
	}{
		{nil, nil}, {[]int{}, nil},
		{[]int{4}, []api.Span{{From: 0, To: 1, Val: 4}}},
		{[]int{1, 2, 2, 1}, []api.Span{{From: 3, To: 4, Val: 1}, {From: 1, To: 3, Val: 2}, {From: 0, To: 1, Val: 1}}},
		{[]int{0, 1, 0}, []api.Span{{From: 0, To: 1, Val: 0}, {From: 1, To: 2, Val: 1}, {From: 2, To: 3, Val: 0}}},
		{[]int{2, 2, 0, 2}, []api.Span{{From: 0, To: 2, Val: 2}, {From: 2, To: 3, Val: 0}, {From: 3, To: 4, Val: 2}}},
		{[]int{-1, 0, 126, 127, 1, -9}, []api.Span{{From: 0, To: 2, Val: 0}, {From: 4, To: 5, Val: 1}, {From: 2, To: 4, Val: 126}, {From: 5, To: 6, Val: 0}}},
	} {
		if got := Runs(c.levels); !slices.Equal(got, c.want) {
			t.Errorf("Runs(%v) = %v, not %v", c.levels, got, c.want)
		}
	}
}

func TestP17_4ByHand(t *testing.T) {
	for _, order := range [][]int{nil, {}, {0}, {0, 1}, {1, 0}, {2, 0, 1}, {1, 2, 0}, {3, 2, 1, 0}, {4, 0, 3, 1, 2}} {
		if !Is(order) {
			t.Errorf("%v is a permutation", order)
		}
	}
	for _, order := range [][]int{{1}, {-1}, {2}, {0, 0}, {1, 1}, {1, 2}, {0, 2}, {0, -1}, {-1, 0}, {0, 1, 1}, {0, 1, 3}, {3, 1, 2}, {0, 2, 2}, {1, 0, -1}, {0, 1, 2, 4}, {math.MinInt}, {math.MaxInt}, {0, math.MaxInt}, {math.MinInt, 0}, {1 << 32}, {-1 << 32}, {0, 1<<32 + 1}, {256}, {0, 257}, {0, 1, 2, 0}} {
		if Is(order) {
			t.Errorf("%v is no permutation", order)
		}
	}
}

func TestP17_4ShortLists(t *testing.T) {
	check := func(order []int) {
		if got, want := Is(order), isByChapter(order); got != want {
			t.Fatalf("Is(%v) = %t", order, got)
		}
	}
	lists(5, []int{-2, -1, 0, 1, 2, 3, 4, 5, 6}, check)
	lists(7, []int{0, 1, 2, 3, 4, 5, 6}, check)
	lists(3, []int{math.MinInt, math.MinInt + 1, -1 << 32, -1, 0, 1, 2, 3, 4, 1 << 32, 1<<32 + 1, math.MaxInt - 1, math.MaxInt}, check)
}

// Longer permutations, and each with one number that is another one's or none.
func TestP17_4LongLists(t *testing.T) {
	next := stream()
	for range 300 {
		order := numbered(1 + next(200))
		for i := range order {
			k := next(i + 1)
			order[i], order[k] = order[k], order[i]
		}
		if !Is(order) {
			t.Fatalf("%v is a permutation", order)
		}
		at, n := next(len(order)), len(order)
		for _, other := range []int{math.MinInt, -n, -1, n, n + 1, order[at] + 1<<32, order[at] + 256*n, -1 - order[at], math.MaxInt, order[at] + 1, order[at] - 1, n - 1 - order[at]} {
			wrong := slices.Clone(order)
			wrong[at] = other
			if Is(wrong) != (other == order[at]) {
				t.Fatalf("%v is taken for a permutation, or isn't", wrong)
			}
		}
	}
}

// The numbers of ranges, round by round: from the highest level down.
func TestP17_5(t *testing.T) {
	for _, c := range []struct {
		levels string
		each   []int
	}{
		{"", nil}, {"0", nil}, {"42024", nil}, {"1", []int{1}}, {"1111", []int{1}}, {"10101", []int{3}}, {"2120", []int{2, 1}}, {"123210", []int{1, 1, 1}}, {"3031303", []int{4, 4, 3}}, {"141", []int{1, 1, 1, 1}}, {"30503", []int{1, 1, 3}}, {"702501", []int{1, 1, 2, 2, 2, 2, 3}}, {"0660660", nil}, {"0560650", []int{2, 2}}, {"949391", []int{3, 3, 3, 3, 3, 2, 1, 1, 1}},
	} {
		want := 0
		for _, turns := range c.each {
			want += turns
		}
		if got := Turns(digits(c.levels)); got != want {
			t.Errorf("Turns(%s) = %d, not %d", c.levels, got, want)
		}
	}
}

// What P17.6 to P17.8 tell of one list is checked with every list above; this is about two lists.
func TestP17_7Raised(t *testing.T) {
	check := func(levels []int) {
		var raised []int
		for _, level := range levels {
			raised = append(raised, level+1)
		}
		if got, want := Visual(raised), backward(Visual(levels)); !slices.Equal(got, want) {
			t.Fatalf("Visual(%v) = %v, and of the levels raised by 1 %v", levels, backward(want), got)
		}
	}
	next := stream()
	lists(6, []int{0, 1, 2, 3, 4}, check)
	lists(5, []int{0, 1, 64, 124, 125}, check)
	for range 2000 {
		check(some(next, next(100), 5, numbered(126)))
		check(walk(next, next(100), 3, 125))
	}
}

func TestP17_8(t *testing.T) {
	for level := range 127 {
		for _, n := range []int{0, 1, 2, 3, 10, 257} {
			order, turns := numbered(n), 0
			var runs []api.Span
			if n > 0 {
				runs = []api.Span{{From: 0, To: n, Val: level}}
			}
			if level%2 == 1 && n > 0 {
				order, turns = backward(order), 1
			}
			gives(t, slices.Repeat([]int{level}, n), order, runs, turns)
		}
	}
}

// Levels that layer 16 gives, as lines are put into order.
func TestLevelsOfTexts(t *testing.T) {
	for _, c := range []struct {
		text []rune
		dir  int
		want string
	}{
		{[]rune{'a', ' ', 0x5D0, 0x5D1}, api.DirAuto, "0132"}, {[]rune{0x5D0, 0x5D1}, api.DirAuto, "10"}, {[]rune{0x5D0, ' ', '1', '2', ' ', 0x5D1}, api.DirAuto, "542310"}, {[]rune{0x5D0, ' ', 'a', 'b'}, api.DirLeft, "0123"}, {[]rune{0x5D0, ' ', 'a', 'b'}, api.DirRight, "2310"}, {[]rune{'a', 0x202B, 0x5D0, '1', 'b', 0x202C, 'c'}, api.DirLeft, "0134526"},
	} {
		high, _, e := levels.Of(c.text, c.dir)
		if got := Visual(high); e != api.OK || !slices.Equal(got, digits(c.want)) {
			t.Errorf("%X: the levels %v, the order %v, not %s", c.text, high, got, c.want)
		}
		holds(t, high)
	}
}

func TestR5Arguments(t *testing.T) {
	next := stream()
	for range 500 {
		n := next(40)
		room := append(some(next, n, 4, []int{1, 2, 0, 3, -4, 130, 125, 126}), 7, -8, 999)
		given := slices.Clone(room)
		Visual(given[:n])
		Logical(given[:n])
		Runs(given[:n])
		Turns(given[:n])
		Is(given[:n])
		if !slices.Equal(given, room) {
			t.Fatalf("%v became %v", room, given)
		}
		order := append(Visual(given[:n]), 0, -1, n)
		kept := slices.Clone(order)
		Is(order[:n])
		Is(order[:n+1])
		if !slices.Equal(order, kept) {
			t.Fatalf("%v became %v", kept, order)
		}
	}
}

func TestR5Results(t *testing.T) {
	calls := []func(levels []int) []int{Visual, Logical}
	for _, text := range []string{"0", "1", "00", "0110", "1221", "222", "43210", "01234", "16161"} {
		for k, call := range calls {
			given := append(digits(text), 77)[:len(text)]
			first, again := call(given), call(given)
			want := slices.Clone(first)
			spoil(given, 99)
			if !slices.Equal(first, want) {
				t.Errorf("%s: the result of %d shares memory with its argument", text, k)
			}
			spoil(first, 98)
			if !slices.Equal(again, want) {
				t.Errorf("%s: the results of two calls of %d share memory", text, k)
			}
			if slices.Contains(given[:cap(given)], 98) {
				t.Errorf("%s: an argument shares memory with the result of %d", text, k)
			}
		}
		given := digits(text)
		first, again := Runs(given), Runs(given)
		want := slices.Clone(first)
		spoil(given, 99)
		if !slices.Equal(first, want) {
			t.Errorf("%s: the runs hang on the argument", text)
		}
		spoil(first, api.Span{From: 9, To: 9, Val: 9})
		if !slices.Equal(again, want) {
			t.Errorf("%s: the runs of two calls share memory", text)
		}
	}
}

// No call hangs on those before it.
func TestR4Calls(t *testing.T) {
	for range 3 {
		checkRows(t, []handRow{{"43210", "3 1 0 2 4", 4}, {"0", "0", 0}, {"16", "1 0", 6}, {"1221", "3 12 0", 2}, {"", "", 0}, {"246", "0 1 2", 0}})
		if !Is([]int{1, 0}) || Is([]int{1, 1}) || !Is(nil) {
			t.Error("Is")
		}
	}
}

// Lists of the greatest length.
func TestR8Long(t *testing.T) {
	next := stream()
	for _, row := range [][]int{{0}, {1}, {125}, {126}, {0, 1}, {1, 2}, {1, 126}, {125, 126}, {0, 125}, {1, 1, 2, 2, 2, 3}, {math.MinInt, math.MaxInt, 1}, numbered(127), backward(numbered(127)), append(numbered(127), backward(numbered(127))...)} {
		holds(t, slices.Repeat(row, most/len(row)+1)[:most])
	}
	holds(t, some(next, most, 1, numbered(127)))
	holds(t, some(next, most, 300, numbered(127)))
	holds(t, walk(next, most, 1, 126))
	order := backward(numbered(most))
	if !Is(order) {
		t.Error("a long permutation")
	}
	for _, other := range []int{-1, 0, most, 1 << 32} {
		order[0] = other
		if Is(order) {
			t.Errorf("a long list with %d", other)
		}
	}
}

func TestExamples(t *testing.T) {
	checkRows(t, []handRow{{"0110", "0 21 3", 1}, {"1221", "3 12 0", 2}, {"210", "1 0 2", 2}})
	if got := Runs([]int{1, 2, 2, 1}); !slices.Equal(got, []api.Span{{From: 3, To: 4, Val: 1}, {From: 1, To: 3, Val: 2}, {From: 0, To: 1, Val: 1}}) {
		t.Errorf("Runs: %v", got)
	}
}
