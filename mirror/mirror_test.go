package mirror

import (
	"math"
	"slices"
	"testing"

	"typecase/api"
	"typecase/levels"
)

// digits returns the levels that are written as digits.
func digits(text string) []int {
	var list []int
	for _, digit := range text {
		list = append(list, int(digit-'0'))
	}
	return list
}

// handRow is a text, its levels, a digit each, the codes, and how many of them differ, all written by hand.
type handRow struct {
	text, levels, codes string
	changes             int
}

func checkRows(t *testing.T, rows []handRow) {
	t.Helper()
	for _, row := range rows {
		gives(t, []rune(row.text), digits(row.levels), []rune(row.codes), row.changes)
	}
}

// gives checks the calls about the text and the levels against what is written by hand, and against the chapter.
func gives(t *testing.T, text []rune, levels []int, codes []rune, changes int) {
	t.Helper()
	if got := Codes(text, levels); !slices.Equal(got, codes) {
		t.Errorf("Codes(%q, %v) = %q, not %q", text, levels, got, codes)
	}
	if got := Changes(text, levels); got != changes {
		t.Errorf("Changes(%q, %v) = %d, not %d", text, levels, got, changes)
	}
	holds(t, text, levels)
}

func TestP18_1OneByHand(t *testing.T) {
	for _, c := range []struct {
		r     rune
		level int
		want  rune
	}{
		{'(', 0, '('}, {'(', 1, ')'}, {'(', 2, '('}, {'(', 3, ')'}, {'(', 125, ')'}, {'(', 126, '('}, {'(', 127, ')'}, {'(', -1, ')'}, {'(', -2, '('}, {'(', -3, ')'},
		{')', 0, ')'}, {')', 1, '('}, {')', 2, ')'}, {')', -1, '('}, {')', math.MaxInt, '('}, {')', math.MaxInt - 1, ')'}, {')', math.MinInt, ')'}, {')', math.MinInt + 1, '('},
		{'<', 1, '>'}, {'>', 1, '<'}, {'[', 1, ']'}, {']', 1, '['}, {'{', 1, '}'}, {'}', 1, '{'}, {0xAB, 1, 0xBB}, {0xBB, 1, 0xAB}, {0x2039, 1, 0x203A}, {0x203A, 1, 0x2039},
		{0x2045, 1, 0x2046}, {0x2046, 1, 0x2045}, {0x2208, 1, 0x220B}, {0x220B, 1, 0x2208}, {0x2264, 1, 0x2265}, {0x2265, 1, 0x2264}, {0x2329, 1, 0x232A}, {0x232A, 1, 0x2329},
		{0x3008, 1, 0x3009}, {0x3009, 1, 0x3008}, {0x3010, 1, 0x3011}, {0x3011, 1, 0x3010}, {0xFF08, 1, 0xFF09}, {0xFF09, 1, 0xFF08},
		{'<', 0, '<'}, {0xAB, 2, 0xAB}, {0x2208, 4, 0x2208}, {0x2264, -4, 0x2264}, {0x2329, 0, 0x2329}, {0xFF08, 126, 0xFF08},
		{0, 1, 0}, {'a', 1, 'a'}, {'a', 0, 'a'}, {'1', 1, '1'}, {' ', 1, ' '}, {'/', 1, '/'}, {'\\', 1, '\\'}, {'=', 1, '='}, {'|', 1, '|'}, {0x5D0, 1, 0x5D0}, {0x628, 1, 0x628}, {0x301, 1, 0x301},
		{0x2018, 1, 0x2018}, {0x201C, 1, 0x201C}, {0x220A, 1, 0x220A}, {0x2266, 1, 0x2266}, {0x3012, 1, 0x3012}, {0x3014, 1, 0x3014}, {0xFF1C, 1, 0xFF1C}, {0x1F600, 1, 0x1F600}, {top, 1, top},
		{-1, 1, -1}, {-'(', 1, -'('}, {0xD800, 1, 0xD800}, {0xDFFF, 1, 0xDFFF}, {top + 1, 1, top + 1}, {math.MinInt32, 1, math.MinInt32}, {math.MaxInt32, 1, math.MaxInt32},
	} {
		if got := One(c.r, c.level); got != c.want {
			t.Errorf("One(%X, %d) = %X, not %X", c.r, c.level, got, c.want)
		}
	}
}

// Every code point at an odd and at an even level, and what isn't one beside the code points.
func TestP18_1EveryCodePoint(t *testing.T) {
	const below = 0x20000
	want := make([]rune, below+top+1+below)
	for i := range want {
		want[i] = rune(i) - below
	}
	for _, pair := range mirrorPairs() {
		want[below+pair[0]] = pair[1]
	}
	for i, w := range want {
		r := rune(i) - below
		if got := One(r, 1); got != w {
			t.Fatalf("One(%X, 1) = %X, not %X", r, got, w)
		}
		if got := One(r, -1); got != w {
			t.Fatalf("One(%X, -1) = %X, not %X", r, got, w)
		}
		if One(r, 0) != r || One(r, 2) != r || One(r, -2) != r {
			t.Fatalf("%X becomes another at an even level", r)
		}
	}
}

func TestP18_1EveryLevel(t *testing.T) {
	among := slices.Concat(mirrored(), []rune{0, 'a', '=', 0x5D0, 0x2266, 0xD800, -'(', top + 1, math.MinInt32, math.MaxInt32})
	for _, level := range manyLevels() {
		for _, r := range among {
			if got, want := One(r, level), oneByChapter(r, level); got != want {
				t.Errorf("One(%X, %d) = %X, not %X", r, level, got, want)
			}
		}
		holds(t, among, slices.Repeat([]int{level}, len(among)))
		holds(t, among, []int{level})
		holds(t, []rune{'('}, []int{level, 1})
	}
	next := stream()
	for range 20000 {
		level := next(1<<31)<<32 | next(1<<31)<<1 | next(2)
		if next(2) == 0 {
			level = -level
		}
		if r := among[next(len(among))]; One(r, level) != oneByChapter(r, level) {
			t.Fatalf("One(%X, %d) = %X", r, level, One(r, level))
		}
	}
}

func TestP18_1WithoutMirror(t *testing.T) {
	for _, r := range slices.Concat(plain(), notCodes()) {
		for _, level := range []int{0, 1, 2, 3, 125, 126, -1, -2, math.MinInt, math.MinInt + 1, math.MaxInt - 1, math.MaxInt} {
			if got := One(r, level); got != r {
				t.Errorf("One(%X, %d) = %X", r, level, got)
			}
			gives(t, []rune{r, r}, []int{level, level}, []rune{r, r}, 0)
			gives(t, []rune{'(', r, ')'}, []int{1, level}, []rune{')', r, ')'}, 1)
		}
	}
	for r := rune(0xD800); r <= 0xDFFF; r++ {
		if One(r, 1) != r {
			t.Errorf("One(%X, 1) = %X", r, One(r, 1))
		}
	}
	// A step that is prime to the number of runes, so that values of all kinds come up.
	for r := int64(math.MinInt32); r <= math.MaxInt32; r += 99991 {
		if (r < 0 || r > int64(top)) && One(rune(r), 1) != rune(r) {
			t.Fatalf("One(%d, 1) = %d", r, One(rune(r), 1))
		}
	}
}

func TestP18_1CodesByHand(t *testing.T) {
	checkRows(t, []handRow{
		{"(", "0", "(", 0}, {"(", "1", ")", 1}, {")", "1", "(", 1}, {"a", "1", "a", 0}, {"a", "0", "a", 0}, {"(", "7", ")", 1}, {"(", "8", "(", 0},
		{"()", "11", ")(", 2}, {"()", "00", "()", 0}, {"()", "01", "((", 1}, {"()", "10", "))", 1}, {"((", "11", "))", 2}, {"()", "23", "((", 1},
		{"(a)", "000", "(a)", 0}, {"(a)", "111", ")a(", 2}, {"(a)", "222", "(a)", 0}, {"(a)", "333", ")a(", 2}, {"(a)", "121", ")a(", 2}, {"(a)", "212", "(a)", 0},
		{"<[{«‹", "11111", ">]}»›", 5}, {"›»}]>", "11111", "‹«{[<", 5}, {"<[{«‹", "10101", ">[}«›", 3}, {"<[{«‹", "01010", "<]{»‹", 2}, {"≤∈⁅「（", "11111", "≥∋⁆」）", 5}, {"〈《『【", "1357", "〉》』】", 4},
		{"a<b=c>d", "1111111", "a>b=c<d", 2}, {"a<b=c>d", "0100010", "a>b=c<d", 2}, {"a<b=c>d", "1011101", "a<b=c>d", 0}, {"a/b\\c|d", "1111111", "a/b\\c|d", 0}, {"“‘’”", "1111", "“‘’”", 0}, {"∉∊∌≦≧≪≫", "1111111", "∉∊∌≦≧≪≫", 0},
	})
}

func TestP18_1OtherCounts(t *testing.T) {
	checkRows(t, []handRow{
		{"", "", "", 0}, {"", "0", "", 0}, {"", "1", "", 0}, {"", "111", "", 0},
		{"(", "", "(", 0}, {"()", "", "()", 0}, {"(a)[b]", "", "(a)[b]", 0}, {"a", "", "a", 0},
		{"()", "1", "))", 1}, {"()", "0", "()", 0}, {"(((", "1", ")((", 1}, {"(((", "11", "))(", 2}, {"(((", "01", "()(", 1}, {"(a)[b]", "11", ")a)[b]", 1}, {"(a)[b]", "111", ")a([b]", 2}, {"(a)[b]", "11101", ")a([b]", 2},
		{"(", "10", ")", 1}, {"(", "11", ")", 1}, {"(", "01", "(", 0}, {"(", "0111", "(", 0}, {"()", "111", ")(", 2}, {"()", "1011111", "))", 1}, {"a", "111", "a", 0},
	})
	next := stream()
	text := mirrored()
	for given := range 2*len(text) + 1 {
		ones := slices.Repeat([]int{1}, given)
		want := slices.Clone(text)
		for i := range min(given, len(text)) {
			want[i] = mirrorPairs()[i][1]
		}
		gives(t, text, ones, want, min(given, len(text)))
		gives(t, text, slices.Repeat([]int{-2}, given), text, 0)
		holds(t, text, some(next, given, manyLevels()))
		holds(t, someText(next, given), []int{1, 0, 1, 3})
	}
}

func TestP18_1ShortTexts(t *testing.T) {
	lists(4, []rune{'(', ')', '<', 0xAB, 'a', -1}, func(text []rune) {
		lists(5, []int{0, 1, 2}, func(levels []int) { holds(t, text, levels) })
	})
	lists(2, []rune{'[', ']', 0x2208, '=', 0xD800}, func(text []rune) {
		lists(3, []int{math.MinInt, math.MinInt + 1, -3, -2, -1, 0, 1, 126, 127, math.MaxInt}, func(levels []int) { holds(t, text, levels) })
	})
	lists(2, mirrored(), func(text []rune) {
		lists(2, []int{0, 1, -1}, func(levels []int) { holds(t, text, levels) })
	})
}

func TestP18_1LongTexts(t *testing.T) {
	next := stream()
	all := manyLevels()
	for range 2000 {
		n := next(100)
		text := someText(next, n)
		holds(t, text, some(next, n, []int{0, 1, 2, 3}))
		holds(t, text, some(next, n, all))
		holds(t, text, some(next, next(n+1), all))
		holds(t, text, some(next, n+next(50), all))
		holds(t, some(next, n, mirrored()), some(next, n, []int{0, 1}))
	}
}

// Code points that would have a Mirror but stand at an even level, or have no level, don't count.
func TestP18_1Changes(t *testing.T) {
	for _, c := range []struct {
		text, levels string
		want         int
	}{
		{"", "", 0}, {"", "11", 0}, {"(", "", 0}, {"(", "0", 0}, {"(", "1", 1}, {"(", "2", 0}, {"(", "3", 1}, {"(", "01", 0}, {"((((", "1", 1}, {"((((", "1010", 2}, {"((((", "0101", 2}, {"((((", "0202", 0}, {"((((", "1111", 4}, {"((((", "111111", 4},
		{"(a)", "001", 1}, {"(a)", "010", 0}, {"(a)", "100", 1}, {"(a)", "101", 2}, {"abc", "111", 0}, {"a(b)c<d>e", "111111111", 4}, {"a(b)c<d>e", "111100000", 2}, {"a(b)c<d>e", "1111", 2}, {"a(b)c<d>e", "101010101", 0}, {"a(b)c<d>e", "010101010", 4},
	} {
		if got := Changes([]rune(c.text), digits(c.levels)); got != c.want {
			t.Errorf("Changes(%q, %s) = %d, not %d", c.text, c.levels, got, c.want)
		}
	}
	for n := range 300 {
		if got := Changes(slices.Repeat([]rune{'['}, n), slices.Repeat([]int{-1}, n)); got != n {
			t.Errorf("%d of %d code points count", got, n)
		}
	}
}

// What P18.2 tells is checked with every text and levels above; these are the levels of one parity, and the codes of the codes.
func TestP18_2(t *testing.T) {
	next := stream()
	var even, odd []int
	for _, level := range manyLevels() {
		if oddByChapter(level) {
			odd = append(odd, level)
		} else {
			even = append(even, level)
		}
	}
	for range 2000 {
		n := next(100)
		text := someText(next, n)
		gives(t, text, some(next, next(2*n+1), even), text, 0)
		mirrors := some(next, n, mirrored())
		flipped := some(next, n, odd)
		codes := Codes(mirrors, flipped)
		if len(codes) != n || Changes(mirrors, flipped) != n {
			t.Fatalf("Codes(%X, %v) = %X", mirrors, flipped, codes)
		}
		if got := Codes(codes, flipped); !slices.Equal(got, mirrors) {
			t.Fatalf("the codes %X became %X, not %X", codes, got, mirrors)
		}
	}
}

// Levels that layer 16 gives: what stands in text from right to left is mirrored.
func TestLevelsOfTexts(t *testing.T) {
	for _, c := range []struct {
		text []rune
		dir  int
		want []rune
	}{
		{[]rune{0x5D0, '(', 0x5D1, ')'}, api.DirAuto, []rune{0x5D0, ')', 0x5D1, '('}},
		{[]rune{'a', '(', 'b', ')'}, api.DirAuto, []rune{'a', '(', 'b', ')'}},
		{[]rune{'a', '(', 'b', ')'}, api.DirRight, []rune{'a', '(', 'b', ')'}},
		{[]rune{'(', 'a', ')'}, api.DirRight, []rune{')', 'a', '('}},
		{[]rune{0x5D0, '<', '1', '>', 0x5D1}, api.DirLeft, []rune{0x5D0, '>', '1', '<', 0x5D1}},
		{[]rune{'a', 0x202E, '[', 'b', ']', 0x202C, '[', ']'}, api.DirLeft, []rune{'a', 0x202E, ']', 'b', '[', 0x202C, '[', ']'}},
	} {
		high, _, e := levels.Of(c.text, c.dir)
		if got := Codes(c.text, high); e != api.OK || !slices.Equal(got, c.want) {
			t.Errorf("%X: the levels %v, the codes %X, not %X", c.text, high, got, c.want)
		}
		holds(t, c.text, high)
	}
}

func TestR5Arguments(t *testing.T) {
	next := stream()
	for range 500 {
		n, m := next(40), next(40)
		text := append(some(next, n, mirrored()), '(', 'a', ')', -1)
		given := append(some(next, m, []int{0, 1, -1, 3}), 1, 1, 0, 1)
		keptText, keptLevels := slices.Clone(text), slices.Clone(given)
		Codes(text[:n], given[:m])
		Changes(text[:n], given[:m])
		if !slices.Equal(text, keptText) || !slices.Equal(given, keptLevels) {
			t.Fatalf("%X and %v became %X and %v", keptText, keptLevels, text, given)
		}
	}
}

// Results are new memory, also where nothing changes.
func TestR5Results(t *testing.T) {
	for _, row := range []struct{ text, levels string }{
		{"", ""}, {"", "1"}, {"(a)", ""}, {"(a)", "1"}, {"(a)", "000"}, {"(a)", "111"}, {"(a)", "11111"}, {"abc", "111"}, {"abc", "000"}, {"a", "1"}, {"<", "1"},
	} {
		text, given := append([]rune(row.text), '(', ')'), append(digits(row.levels), 1, 1)
		n, m := len(text)-2, len(given)-2
		first, again := Codes(text[:n], given[:m]), Codes(text[:n], given[:m])
		want, kept := slices.Clone(first), slices.Clone(text)
		spoil(first, 'x')
		if !slices.Equal(again, want) {
			t.Errorf("%q, %s: the results of two calls share memory", row.text, row.levels)
		}
		if !slices.Equal(text, kept) || slices.Contains(text[:cap(text)], 'x') {
			t.Errorf("%q, %s: the text shares memory with the result", row.text, row.levels)
		}
		spoil(text, 'y')
		spoil(given, 77)
		if !slices.Equal(again, want) {
			t.Errorf("%q, %s: the result hangs on an argument", row.text, row.levels)
		}
	}
}

// A nil list is as an empty one.
func TestR6Empty(t *testing.T) {
	for _, text := range [][]rune{nil, {}, {'('}} {
		for _, given := range [][]int{nil, {}} {
			gives(t, text, given, text, 0)
		}
	}
	gives(t, nil, []int{1}, nil, 0)
	gives(t, []rune{}, []int{1}, nil, 0)
}

// No call hangs on those before it.
func TestR4Calls(t *testing.T) {
	for range 3 {
		checkRows(t, []handRow{{"(a)", "111", ")a(", 2}, {"(a)", "000", "(a)", 0}, {"", "", "", 0}, {"[b]{", "1011", "]b[}", 3}, {"[b]{", "", "[b]{", 0}, {"(", "1", ")", 1}})
		if One('(', 1) != ')' || One('(', 0) != '(' || One(')', 1) != '(' || One('a', 1) != 'a' {
			t.Error("One")
		}
	}
}

// Texts of the greatest length.
func TestR8Long(t *testing.T) {
	next := stream()
	for _, n := range []int{4096, most - 1, most} {
		ones := slices.Repeat([]int{1}, most)
		gives(t, slices.Repeat([]rune{'('}, n), ones, slices.Repeat([]rune{')'}, n), n)
		gives(t, slices.Repeat([]rune{'('}, n), slices.Repeat([]int{126}, most), slices.Repeat([]rune{'('}, n), 0)
		gives(t, slices.Repeat([]rune{'a'}, n), ones, slices.Repeat([]rune{'a'}, n), 0)
		gives(t, slices.Repeat([]rune{'('}, n), nil, slices.Repeat([]rune{'('}, n), 0)
		gives(t, nil, ones, nil, 0)
		holds(t, someText(next, n), some(next, most, manyLevels()))
		holds(t, someText(next, n), some(next, next(n), []int{0, 1, 2, 3}))
	}
}

func TestExamples(t *testing.T) {
	if got := string(Codes([]rune("(a)"), []int{1, 1, 1})); got != ")a(" {
		t.Errorf("Codes: %q", got)
	}
	if got := One('(', 2); got != '(' {
		t.Errorf("One: %q", got)
	}
	if got := Changes([]rune("(a)"), []int{0, 0, 1}); got != 1 {
		t.Errorf("Changes: %d", got)
	}
}
