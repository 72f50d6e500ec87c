package words

import (
	"math"
	"slices"
	"testing"

	"typecase/api"
	"typecase/grapheme"
	"typecase/props"
)

const (
	low  = math.MinInt
	high = math.MaxInt
)

// classes is the number of Word classes.
const classes = 8

// kinds returns the kinds that clusters may have: all Word classes but Extend.
func kinds() []int {
	return []int{api.WdOther, api.WdLetter, api.WdDigit, api.WdMid, api.WdMidNum, api.WdJoin, api.WdSpace}
}

// codes returns code points of each Word class, written by hand, so that the tests don't lean on another layer.
func codes() [classes][]rune {
	return [classes][]rune{
		api.WdOther: {'!', '-', '"', '(', '/', '\\', 0, 0x1B, 0x7F, 0xA0, 0xB2, 0xB6, 0x5BE, 0x600, 0x605, 0x60B, 0x61F, 0x66A, 0x6DD, 0x200B, 0x2010, 0x201C, 0x20AC, 0x2600, 0x3001,
			0x3005, 0x3042, 0x30FB, 0x4E00, 0x20000, 0x1F1E6, 0x1F1FF, 0x1F466, -1, math.MinInt32, 0xD800, 0xDFFF, 0x10FFFF, 0x110000, math.MaxInt32},
		api.WdLetter: {'a', 'z', 'A', 'Z', 0xAA, 0xB5, 0xE9, 0x24F, 0x370, 0x3B1, 0x430, 0x5D0, 0x5F2, 0x620, 0x627, 0x640, 0x6D5, 0x904, 0x915, 0xE01, 0xE46, 0x1100, 0x1160, 0x11A8, 0x30A1, 0x30FC, 0xAC00, 0xAC01, 0xD7A3, 0xFB1D},
		api.WdDigit:  {'0', '1', '9', 0x660, 0x669, 0x6F0, 0x966, 0xE50, 0xFF10, 0xFF19},
		api.WdMid:    {'\'', ':', 0xB7, 0x5F3, 0x5F4, 0x2018, 0x2019},
		api.WdMidNum: {',', '.', ';', 0x37E, 0x60C, 0x66B, 0x66C, 0x2044, 0xFF0C},
		api.WdJoin:   {'_', 0x202F, 0x203F, 0x2040},
		api.WdExtend: {0x301, 0x36F, 0xAD, 0x5BF, 0x61C, 0x64B, 0x903, 0x93E, 0xE33, 0x200C, 0x200D, 0x200E, 0x202A, 0x2060, 0x2066, 0x2069, 0xFE0F, 0xFEFF, 0x1F3FB, 0xE0020, 0xE0100},
		api.WdSpace:  {' ', '\t', '\n', 0xB, 0xC, '\r', 0x85, 0x2000, 0x2007, 0x200A, 0x2028, 0x2029, 0x3000},
	}
}

// The code points of the tests are of the classes that they stand for; a mistake there would go unseen elsewhere.
func TestCodes(t *testing.T) {
	for class, all := range codes() {
		for _, r := range all {
			if props.Of(r).Word != class {
				t.Errorf("%X is of class %d, not %d", r, props.Of(r).Word, class)
			}
		}
	}
}

// signs returns clusters of each kind, of one code point and of several, which stay whole and apart beside each other.
func signs() [classes][][]rune {
	return [classes][][]rune{
		api.WdOther: {{'!'}, {'-', 0x301}, {0x600, 'a'}, {0xAD}, {0x1F1E6, 0x1F1E7}, {0x1F466, 0x200D, 0x1F466}, {0xA0}, {0x2066}, {0x4E00, 0xFE0F}, {-1}, {0x600, '1', 0x301}, {0x200B},
			{0x110000, 0x301}, {0xD800}, {0x600, ' '}, {0x202A}, {0x3042, 0x3099}, {0x10FFFF}, {0x2060}, {0x600, '_'}, {0x600, '\''}},
		api.WdLetter: {{'a'}, {'Z', 0x301}, {0x5D0}, {0x627, 0x64B}, {0x430}, {0x1100, 0x1160, 0x11A8}, {0x915, 0x94D, 0x200D}, {0x30A1}, {0xE01, 0xE33}, {0xB5}, {'e', 0x1F3FB, 0xE0100}},
		api.WdDigit:  {{'0'}, {0x660}, {'9', 0x20D0}, {0x966, 0x903}, {0xFF10}, {0xE50, 0x200D, 0x301}, {'5'}},
		api.WdMid:    {{'\''}, {0x2019, 0x301}, {':'}, {0x5F3, 0x5BF, 0x5C1}, {0xB7, 0x200D}},
		api.WdMidNum: {{'.'}, {',', 0x301}, {';'}, {0x2044, 0xFE0F, 0x200C}, {0x37E}, {0xFF0C, 0x903}, {0x66B}},
		api.WdJoin:   {{'_'}, {0x202F, 0x301}, {0x203F}, {'_', 0x200D, 0x301}, {0x2040}},
		api.WdSpace:  {{' '}, {0x3000, 0x301}, {'\t'}, {13, 10}, {0x2028}, {' ', 0x200D, 0x301}, {0x85}, {0x2007}},
	}
}

// spell returns a text of clusters of the given kinds, not the same one of a kind each time, and their boundaries.
func spell(kinds []int) (text []rune, edges []int) {
	all := signs()
	for i, kind := range kinds {
		edges = append(edges, len(text))
		text = append(text, all[kind][(2*i+len(kinds)+len(text))%len(all[kind])]...)
	}
	return text, append(edges, len(text))
}

// stream returns a function that returns numbers from 0 up to n, the same ones each time.
func stream() func(n int) int {
	state := uint64(1)
	return func(n int) int {
		state = state*6364136223846793005 + 1442695040888963407
		return int(state >> 33 % uint64(n))
	}
}

// lists calls visit with each list of at most most of the given kinds.
func lists(most int, among []int, visit func(kinds []int)) {
	count := 1
	for size := range most + 1 {
		for code := range count {
			kinds := make([]int, size)
			for i := range kinds {
				kinds[i] = among[code%len(among)]
				code /= len(among)
			}
			visit(kinds)
		}
		count *= len(among)
	}
}

// far returns the numbers from below 0 to above n, and the ends of int.
func far(n int) []int {
	at := []int{low, low + 1, -1 << 32, -9}
	for i := -2; i <= n+2; i++ {
		at = append(at, i)
	}
	return append(at, n+9, 1<<31, 1<<32, high-1, high)
}

func among(kind int, kinds ...int) bool { return slices.Contains(kinds, kind) }

// unbroken is the chapter's list of rules, each by itself, for the place between the clusters i - 1 and i.
func unbroken(kinds []int, i int) bool {
	a, b := kinds[i-1], kinds[i]
	is := func(at, kind int) bool { return at >= 0 && at < len(kinds) && kinds[at] == kind }
	for _, rule := range []bool{
		among(a, api.WdLetter, api.WdDigit) && among(b, api.WdLetter, api.WdDigit),
		a == api.WdJoin && among(b, api.WdLetter, api.WdDigit, api.WdJoin),
		b == api.WdJoin && among(a, api.WdLetter, api.WdDigit, api.WdJoin),
		a == api.WdSpace && b == api.WdSpace,
		a == api.WdLetter && b == api.WdMid && is(i+1, api.WdLetter),
		a == api.WdMid && b == api.WdLetter && is(i-2, api.WdLetter),
		a == api.WdDigit && b == api.WdMidNum && is(i+1, api.WdDigit),
		a == api.WdMidNum && b == api.WdDigit && is(i-2, api.WdDigit),
	} {
		if rule {
			return true
		}
	}
	return false
}

// boundaries returns the word boundaries of a text by the chapter's definition, given the kinds and the boundaries of its clusters.
func boundaries(kinds, edges []int) []int {
	if len(kinds) == 0 {
		return nil
	}
	bounds := []int{0}
	for i := 1; i < len(kinds); i++ {
		if !unbroken(kinds, i) {
			bounds = append(bounds, edges[i])
		}
	}
	return append(bounds, edges[len(kinds)])
}

// has tells whether a code point of t is of the class.
func has(t []rune, class int) bool {
	return slices.ContainsFunc(t, func(r rune) bool { return props.Of(r).Word == class })
}

// kindOfPart is the chapter's definition of the Kind of a range that contains the given code points.
func kindOfPart(part []rune) int {
	switch {
	case has(part, api.WdLetter):
		return api.WdLetter
	case has(part, api.WdDigit):
		return api.WdDigit
	case has(part, api.WdSpace):
		return api.WdSpace
	}
	return api.WdOther
}

// wordAt returns the word that Around promises for i, given the word boundaries of a text.
func wordAt(bounds []int, i int) api.Cut {
	for at := 1; at < len(bounds); at++ {
		last := at == len(bounds)-1
		if i >= bounds[at-1] && (i < bounds[at] || last && i == bounds[at]) {
			return api.Cut{From: bounds[at-1], To: bounds[at]}
		}
	}
	return api.Cut{}
}

// holds checks every function for the text, whose word boundaries are given.
func holds(t *testing.T, text []rune, want []int) {
	t.Helper()
	if got := Bounds(text); !slices.Equal(got, want) {
		t.Fatalf("Bounds(%X) = %v, not %v", text, got, want)
	}
	for _, i := range far(len(text)) {
		if got := Is(text, i); got != slices.Contains(want, i) {
			t.Fatalf("Is(%X, %d) is %v", text, i, got)
		}
		if got := Around(text, i); got != wordAt(want, i) {
			t.Fatalf("Around(%X, %d) = %v, not %v", text, i, got, wordAt(want, i))
		}
	}
	count := 0
	for i := 1; i < len(want); i++ {
		kind := kindOfPart(text[want[i-1]:want[i]])
		if got := Kind(text, api.Cut{From: want[i-1], To: want[i]}); got != kind {
			t.Fatalf("Kind(%X, %d to %d) = %d, not %d", text, want[i-1], want[i], got, kind)
		}
		if among(kind, api.WdLetter, api.WdDigit) {
			count++
		}
	}
	if got := Count(text); got != count {
		t.Fatalf("Count(%X) = %d, not %d", text, got, count)
	}
}

// pairs has a row for each kind of the first of two clusters and a column for each kind of the second one, in the order of kinds: x where there is no boundary between the two when nothing else stands there.
func pairs() [7]string {
	return [7]string{
		".......", // Other
		".xx..x.", // Letter
		".xx..x.", // Digit
		".......", // Mid
		".......", // MidNum
		".xx..x.", // Join
		"......x", // Space
	}
}

func TestP8_1Pairs(t *testing.T) {
	all := signs()
	for i, row := range pairs() {
		for j, mark := range row {
			for _, a := range all[kinds()[i]] {
				for _, b := range all[kinds()[j]] {
					want := []int{0, len(a), len(a) + len(b)}
					if mark == 'x' {
						want = []int{0, len(a) + len(b)}
					}
					holds(t, slices.Concat(a, b), want)
				}
			}
		}
	}
}

// What stands in a row of three is joined as in pairs, but for the two rows that only a third cluster joins.
func TestP8_1Threes(t *testing.T) {
	all, table := signs(), pairs()
	for code := range 7 * 7 * 7 {
		i, j, k := code/49, code/7%7, code%7
		row := [3]int{kinds()[i], kinds()[j], kinds()[k]}
		bridge := row == [3]int{api.WdLetter, api.WdMid, api.WdLetter} || row == [3]int{api.WdDigit, api.WdMidNum, api.WdDigit}
		for turn := range 7 {
			a, b, c := all[row[0]], all[row[1]], all[row[2]]
			first, second, third := a[turn%len(a)], b[(turn+1)%len(b)], c[(turn+2)%len(c)]
			want := []int{0}
			if table[i][j] == '.' && !bridge {
				want = append(want, len(first))
			}
			if table[j][k] == '.' && !bridge {
				want = append(want, len(first)+len(second))
			}
			holds(t, slices.Concat(first, second, third), append(want, len(first)+len(second)+len(third)))
		}
	}
}

func TestP8_1Single(t *testing.T) {
	holds(t, nil, nil)
	holds(t, []rune{}, nil)
	for _, all := range codes() {
		for _, r := range all {
			holds(t, []rune{r}, []int{0, 1})
		}
	}
	for _, all := range signs() {
		for _, sign := range all {
			holds(t, sign, []int{0, len(sign)})
		}
	}
	for _, i := range far(0) {
		if Is(nil, i) || Is([]rune{}, i) {
			t.Errorf("%d is a word boundary of the empty text", i)
		}
	}
}

// handCases are texts and their word boundaries, written by hand.
func handCases() map[string][]int {
	return map[string][]int{
		"ab": {0, 2}, "a1": {0, 2}, "1a": {0, 2}, "12": {0, 2}, "a1b2": {0, 4}, "a\u05D0\u0660\u0E01": {0, 4},
		"_": {0, 1}, "__": {0, 2}, "___": {0, 3}, "_a": {0, 2}, "a_": {0, 2}, "_1": {0, 2}, "1_": {0, 2}, "__a__1__": {0, 8}, "a_b": {0, 3}, "_ _": {0, 1, 2, 3}, "_'_": {0, 1, 2, 3}, "_._": {0, 1, 2, 3},
		"a_ ": {0, 2, 3}, " _a": {0, 1, 3}, "!_!": {0, 1, 2, 3}, "_!": {0, 1, 2}, "!_": {0, 1, 2}, "a_'b": {0, 2, 3, 4}, "a'_b": {0, 1, 2, 4}, "1_.2": {0, 2, 3, 4}, "1._2": {0, 1, 2, 4}, "a\u202Fb": {0, 3},
		" ": {0, 1}, "  ": {0, 2}, "     ": {0, 5}, " \t\n\r\u2028\u3000 ": {0, 7}, " a ": {0, 1, 2, 3}, "a  b": {0, 1, 3, 4}, " 1": {0, 1, 2}, "1 ": {0, 1, 2}, " '": {0, 1, 2}, "' ": {0, 1, 2}, " .": {0, 1, 2}, ". ": {0, 1, 2}, "! !": {0, 1, 2, 3},
		"a\u00A0b": {0, 1, 2, 3}, "  \u00A0  ": {0, 2, 3, 5},
		"'": {0, 1}, "''": {0, 1, 2}, "a'": {0, 1, 2}, "'a": {0, 1, 2}, "a'b": {0, 3}, "a''b": {0, 1, 2, 3, 4}, "'a'": {0, 1, 2, 3}, "'a'b'": {0, 1, 4, 5}, "a'b'c": {0, 5}, "a'b'c'd'e": {0, 9}, "a'b''c": {0, 3, 4, 5, 6}, "ab'cd": {0, 5},
		"a'1": {0, 1, 2, 3}, "1'a": {0, 1, 2, 3}, "1'2": {0, 1, 2, 3}, "a1'b": {0, 2, 3, 4}, "a'1b": {0, 1, 2, 4}, "1a'b2": {0, 5}, "a' b": {0, 1, 2, 3, 4}, "a 'b": {0, 1, 2, 3, 4}, "a'!": {0, 1, 2, 3}, "!'a": {0, 1, 2, 3}, "a':b": {0, 1, 2, 3, 4}, "a:b\u00B7c\u2019d": {0, 7},
		".": {0, 1}, "..": {0, 1, 2}, "1.": {0, 1, 2}, ".1": {0, 1, 2}, "1.2": {0, 3}, "1..2": {0, 1, 2, 3, 4}, ".1.": {0, 1, 2, 3}, "1.2.3": {0, 5}, "1,2.3;4": {0, 7}, "1.2..3": {0, 3, 4, 5, 6}, "a.b": {0, 1, 2, 3}, "a.1": {0, 1, 2, 3}, "1.a": {0, 1, 2, 3},
		"a1.b": {0, 2, 3, 4}, "a1.2b": {0, 5}, "1. 2": {0, 1, 2, 3, 4}, "1.'2": {0, 1, 2, 3, 4}, "a.'b": {0, 1, 2, 3, 4}, "1'.2": {0, 1, 2, 3, 4}, "a'b.c": {0, 3, 4, 5}, "1.2'3": {0, 3, 4, 5}, "a'b1.2": {0, 6}, "1.2a'b": {0, 6}, "a'b_1.2": {0, 7},
		"1-2": {0, 1, 2, 3}, "a/b": {0, 1, 2, 3}, "\u4E00\u4E8C": {0, 1, 2}, "\u3042\u3044": {0, 1, 2}, "\u30A1\u30A2\u30FC": {0, 3}, "a\u4E00": {0, 1, 2}, "!!": {0, 1, 2},
	}
}

// clusterCases are texts with clusters of several code points and of Extend, and their word boundaries, written by hand.
func clusterCases() map[string][]int {
	return map[string][]int{
		"\u0301": {0, 1}, "\u0301\u0301": {0, 2}, "\u0301a": {0, 1, 2}, "\u0301\u0302ab": {0, 2, 4}, "\u200D1": {0, 1, 2}, "\u0301_": {0, 1, 2}, "\u0301 ": {0, 1, 2}, "\u0903'": {0, 1, 2}, "\u0301'a": {0, 1, 2, 3}, "\u0301!": {0, 1, 2}, "\U0001F3FB\u0301": {0, 2},
		"\n\u0301": {0, 1, 2}, "\n\u0301a": {0, 1, 2, 3}, " \n\u0301 ": {0, 2, 3, 4}, "a\n\u0301b": {0, 1, 2, 3, 4}, "\u200B\u0301a": {0, 1, 2, 3}, "\u200E\u0301": {0, 1, 2}, "\t\u200D\u0301\t": {0, 1, 3, 4},
		"a\u00ADb": {0, 1, 2, 3}, "1\u2060.2": {0, 1, 2, 3, 4}, "a\u2066b\u2069": {0, 1, 2, 3, 4}, "\u202Aa": {0, 1, 2}, "a'\u00ADb": {0, 1, 2, 3, 4}, "\u00AD\u00AD": {0, 1, 2}, " \u200E ": {0, 1, 2, 3}, "_\u00AD_": {0, 1, 2, 3}, "\u00AD\u0301\u0301a": {0, 1, 3, 4},
		"e\u0301x": {0, 3}, "e\u0301 x": {0, 2, 3, 4}, "e\u0301'x\u0301": {0, 5}, "e\u0301'\u0301\u0302x\u0301": {0, 7}, "e'\u0301x": {0, 4}, "e\u0301'\u0301": {0, 2, 4}, "e\u0301'\u0301 ": {0, 2, 4, 5}, "'\u0301e": {0, 2, 3},
		"1\u0301.\u0301\u03022\u0301": {0, 7}, "1.\u03012": {0, 4}, "1\u0301.\u0301": {0, 2, 4}, "1\u0301.\u0301.2": {0, 2, 4, 5, 6}, "_\u0301\u0302a\u0301_\u0301": {0, 7}, "_\u0301!": {0, 2, 3}, " \u0301 ": {0, 3}, " \u0301\u0301 \u0301a": {0, 5, 6}, " \u0301'": {0, 2, 3},
		"\r\n": {0, 2}, "\r\n\r\n": {0, 4}, "\n\r": {0, 2}, "a\r\nb": {0, 1, 3, 4}, " \r\n ": {0, 4}, "\r\n'": {0, 2, 3},
		"\u1100\u1160\u11A8": {0, 3}, "\u1100\u1160\u11A8\u1100": {0, 4}, "\uAC00\u11A8'\uAC01\u11A8": {0, 5}, "\u1100\u1100!": {0, 2, 3}, "1\u1100\u1160_": {0, 4}, "\u0915\u094D\u0937\u093F\u0903 \u0967": {0, 5, 6, 7}, "\u0E01\u0E33\u0E02": {0, 3},
		"\u0600a": {0, 2}, "\u0600ab": {0, 2, 3}, "a\u0600b": {0, 1, 3}, "\u06001.2": {0, 2, 3, 4}, "\u0600 ": {0, 2}, " \u0600 ": {0, 1, 3}, "\u0600'a": {0, 2, 3}, "a\u0600'b": {0, 1, 3, 4}, "\u0600\u0600__": {0, 3, 4}, "\u0600\u0301a": {0, 2, 3}, "\u0600": {0, 1}, "a\u0600": {0, 1, 2},
		"\U0001F1E6\U0001F1E7": {0, 2}, "\U0001F1E6\U0001F1E7\U0001F1E8": {0, 2, 3}, "\U0001F1E6\U0001F1E7\U0001F1E8\U0001F1E9": {0, 2, 4}, "a\U0001F1E6\U0001F1E7b": {0, 1, 3, 4}, "\U0001F466\u200D\U0001F466": {0, 3}, "\U0001F466\u200D\U0001F466a": {0, 3, 4}, "\U0001F466\U0001F3FB\U0001F466": {0, 2, 3}, "a\u200D\U0001F466": {0, 2, 3},
		"\U0001F466\U0001F3FB\u200D\U0001F466\u0301 ": {0, 5, 6},
	}
}

func TestP8_1ByHand(t *testing.T) {
	for _, cases := range []map[string][]int{handCases(), clusterCases()} {
		for text, want := range cases {
			holds(t, []rune(text), want)
		}
	}
}

func TestP8_1StrangeCodePoints(t *testing.T) {
	for _, c := range []struct {
		text []rune
		want []int
	}{
		{[]rune{-1}, []int{0, 1}}, {[]rune{-1, -1}, []int{0, 1, 2}}, {[]rune{'a', -1, 'b'}, []int{0, 1, 2, 3}}, {[]rune{'a', '\'', -1, 'b'}, []int{0, 1, 2, 3, 4}}, {[]rune{-1, '_', 'a'}, []int{0, 1, 3}},
		{[]rune{0x110000, 0x110001}, []int{0, 1, 2}}, {[]rune{'1', 0x110000, '2'}, []int{0, 1, 2, 3}}, {[]rune{' ', math.MaxInt32, ' '}, []int{0, 1, 2, 3}}, {[]rune{math.MinInt32, math.MaxInt32}, []int{0, 1, 2}},
		{[]rune{0xD800, 0xDC00}, []int{0, 1, 2}}, {[]rune{0xD800, 'a', 'b', 0xDFFF}, []int{0, 1, 3, 4}}, {[]rune{-1, 0x301, 'a', 0x301}, []int{0, 2, 4}}, {[]rune{0x110000, 0x301, 0x200D}, []int{0, 3}}, {[]rune{0x600, -1, 'a'}, []int{0, 2, 3}},
	} {
		holds(t, c.text, c.want)
	}
}

func TestP8_1FarPositions(t *testing.T) {
	text := []rune{'e', 0x301, 'x', '!'}
	for _, i := range []int{low, low + 1, -1 << 32, -2, -1, 1, 2, 5, 6, 1 << 32, high - 1, high} {
		if Is(text, i) {
			t.Errorf("%d is a word boundary", i)
		}
	}
	for _, i := range []int{0, 3, 4} {
		if !Is(text, i) {
			t.Errorf("%d is no word boundary", i)
		}
	}
}

func TestP8_2AllShortTexts(t *testing.T) {
	check := func(kinds []int) {
		text, edges := spell(kinds)
		holds(t, text, boundaries(kinds, edges))
	}
	lists(4, kinds(), check)
	lists(7, []int{api.WdLetter, api.WdMid, api.WdOther}, check)
	lists(7, []int{api.WdDigit, api.WdMidNum, api.WdSpace}, check)
	lists(6, []int{api.WdLetter, api.WdDigit, api.WdMid, api.WdMidNum}, check)
	lists(6, []int{api.WdLetter, api.WdMid, api.WdJoin, api.WdSpace}, check)
}

func TestP8_2LongTexts(t *testing.T) {
	pick := stream()
	for range 2000 {
		list := make([]int, pick(40))
		for i := range list {
			// Some kinds come up more often, so that long words do.
			list[i] = []int{kinds()[pick(7)], api.WdLetter, api.WdDigit, api.WdMid, api.WdMidNum}[pick(5)]
		}
		text, edges := spell(list)
		holds(t, text, boundaries(list, edges))
	}
}

// kindsByChapter returns the kinds of the clusters of any text.
func kindsByChapter(text []rune, edges []int) []int {
	var list []int
	for i := 1; i < len(edges); i++ {
		kind := api.WdOther
		for _, r := range slices.Backward(text[edges[i-1]:edges[i]]) {
			if class := props.Of(r).Word; class != api.WdExtend {
				kind = class
			}
		}
		list = append(list, kind)
	}
	return list
}

// Code points of all classes in any order, also such that make clusters with one another, and values that are none.
func TestP8_2AnyCodePoints(t *testing.T) {
	pick, all := stream(), codes()
	for range 6000 {
		text := make([]rune, pick(14))
		for i := range text {
			class := all[pick(classes)]
			text[i] = []rune{class[pick(len(class))], class[pick(len(class))], rune(pick(1 << 32))}[pick(3)]
		}
		edges := grapheme.Bounds(text)
		holds(t, text, boundaries(kindsByChapter(text, edges), edges))
	}
}

// repeated returns a text of n code points in which the given ones come again and again.
func repeated(n int, of ...rune) []rune {
	t := make([]rune, n)
	for i := range t {
		t[i] = of[i%len(of)]
	}
	return t
}

// As many code points as R8 lets a list have.
func TestP8_2LongRuns(t *testing.T) {
	const n = 1 << 16
	for _, c := range []struct {
		of           []rune
		words, count int
	}{
		{[]rune{'a'}, 1, 1}, {[]rune{'1'}, 1, 1}, {[]rune{'a', '_'}, 1, 1}, {[]rune{' '}, 1, 0}, {[]rune{13, 10}, 1, 0}, {[]rune{'_'}, 1, 0}, {[]rune{'!'}, n, 0}, {[]rune{'a', ' '}, n, n / 2},
		{[]rune{'a', '\''}, 2, 1}, {[]rune{'1', '.'}, 2, 1}, {[]rune{'a', '.'}, n, n / 2}, {[]rune{'a', 0x301}, 1, 1}, {[]rune{0x301}, 1, 0}, {[]rune{0x1F1E6}, n / 2, 0}, {[]rune{0x1F466, 0x200D}, 1, 0}, {[]rune{0x600}, 1, 0}, {[]rune{0x4E00}, n, 0},
	} {
		text := repeated(n, c.of...)
		if len(Bounds(text)) != c.words+1 || Count(text) != c.count {
			t.Errorf("%X, again and again: %d and %d", c.of, len(Bounds(text)), Count(text))
		}
		if whole := (api.Cut{From: 0, To: n}); c.words == 1 && Around(text, n/2+1) != whole {
			t.Errorf("%X, again and again: %v", c.of, Around(text, n/2+1))
		}
	}
}

func TestP8_3Around(t *testing.T) {
	text := []rune{'e', 0x301, '\'', 's', ' ', 13, 10, '!', '1', '.', '5'}
	for _, c := range []struct {
		i    int
		want api.Cut
	}{
		{low, api.Cut{}}, {-1, api.Cut{}}, {0, api.Cut{From: 0, To: 4}}, {1, api.Cut{From: 0, To: 4}}, {2, api.Cut{From: 0, To: 4}}, {3, api.Cut{From: 0, To: 4}}, {4, api.Cut{From: 4, To: 7}}, {5, api.Cut{From: 4, To: 7}}, {6, api.Cut{From: 4, To: 7}},
		{7, api.Cut{From: 7, To: 8}}, {8, api.Cut{From: 8, To: 11}}, {9, api.Cut{From: 8, To: 11}}, {10, api.Cut{From: 8, To: 11}}, {11, api.Cut{From: 8, To: 11}}, {12, api.Cut{}}, {13, api.Cut{}}, {high, api.Cut{}},
	} {
		if got := Around(text, c.i); got != c.want {
			t.Errorf("%d: %v, not %v", c.i, got, c.want)
		}
	}
	for _, i := range far(0) {
		if Around(nil, i) != (api.Cut{}) || Around([]rune{}, i) != (api.Cut{}) {
			t.Errorf("%d in the empty text: %v", i, Around(nil, i))
		}
	}
	if got := Around([]rune("ab!"), 3); got != (api.Cut{From: 2, To: 3}) {
		t.Error(got)
	}
}

func TestP8_4ByHand(t *testing.T) {
	text := []rune{'a', 0x301, '1', ' ', '!', 0x301, '_', '.', '\'', 0x600, '2', ' ', 'b'}
	for _, c := range []struct{ from, to, want int }{
		{0, 1, api.WdLetter}, {0, 2, api.WdLetter}, {1, 2, api.WdOther}, {1, 3, api.WdDigit}, {0, 3, api.WdLetter}, {2, 3, api.WdDigit}, {2, 4, api.WdDigit}, {3, 4, api.WdSpace}, {3, 5, api.WdSpace}, {4, 5, api.WdOther}, {4, 9, api.WdOther},
		{3, 9, api.WdSpace}, {9, 10, api.WdOther}, {9, 11, api.WdDigit}, {10, 11, api.WdDigit}, {10, 12, api.WdDigit}, {11, 12, api.WdSpace}, {11, 13, api.WdLetter}, {2, 13, api.WdLetter}, {2, 12, api.WdDigit}, {12, 13, api.WdLetter}, {0, 13, api.WdLetter},
		{0, 0, api.WdOther}, {13, 13, api.WdOther}, {5, 5, api.WdOther}, {3, 2, api.WdOther}, {13, 0, api.WdOther}, {-1, 1, api.WdOther}, {-1, 13, api.WdOther}, {0, 14, api.WdOther}, {12, 14, api.WdOther}, {13, 14, api.WdOther}, {14, 15, api.WdOther},
		{-2, -1, api.WdOther}, {-1, 0, api.WdOther}, {low, high, api.WdOther}, {low, 1, api.WdOther}, {0, high, api.WdOther}, {12, high, api.WdOther}, {high, low, api.WdOther}, {high, high, api.WdOther}, {low, low, api.WdOther}, {0, low, api.WdOther}, {high, 1, api.WdOther}, {high - 1, high, api.WdOther}, {low, low + 1, api.WdOther},
	} {
		if got := Kind(text, api.Cut{From: c.from, To: c.to}); got != c.want {
			t.Errorf("%d to %d: %d, not %d", c.from, c.to, got, c.want)
		}
	}
}

// kindOfClasses is the chapter's definition of Kind for code points of the given classes.
func kindOfClasses(list []int, from, to int) int {
	if from >= 0 && to <= len(list) {
		for _, kind := range []int{api.WdLetter, api.WdDigit, api.WdSpace} {
			for i := from; i < to; i++ {
				if list[i] == kind {
					return kind
				}
			}
		}
	}
	return api.WdOther
}

func TestP8_4AllShortTexts(t *testing.T) {
	every := append(kinds(), api.WdExtend)
	all := codes()
	lists(3, every, func(list []int) {
		text := make([]rune, len(list))
		for i, class := range list {
			text[i] = all[class][(5*i+7*len(list)+class)%len(all[class])]
		}
		for _, from := range far(len(list)) {
			for _, to := range far(len(list)) {
				want := kindOfClasses(list, from, to)
				if got := Kind(text, api.Cut{From: from, To: to}); got != want {
					t.Fatalf("Kind(%X, %d to %d) = %d, not %d", text, from, to, got, want)
				}
			}
		}
	})
	for class, runes := range all {
		for _, r := range runes {
			if got := Kind([]rune{r}, api.Cut{From: 0, To: 1}); got != kindOfClasses([]int{class}, 0, 1) {
				t.Errorf("%X: %d", r, got)
			}
		}
	}
}

func TestP8_5Count(t *testing.T) {
	for text, want := range map[string]int{
		"": 0, " ": 0, "!": 0, "'": 0, ".": 0, "_": 0, "\u0301": 0, "a": 1, "1": 1, "a1": 1, "ab": 1, "a b": 2, " a ": 1, "a!b": 2, "a!": 1, "!a": 1, "1 2": 2, "a'b": 1, "a''b": 2, "1.2": 1, "1..2": 2, "a.b": 2, "_a": 1, "__": 0, "_1_": 1,
		"a  !  1": 2, "\u4E00\u4E8C": 0, "\u3042": 0, "\u30A1": 1, "\u0600a": 1, "\u0600ab": 2, "\u06001": 1, "\u0600 ": 0, "\u0600_": 0, "a\u00ADb": 2, "\r\n": 0, "a\r\nb": 2, "e\u0301'\u0301x 1\u0301.\u03012": 2, "\U0001F466": 0, "can't go, 3.14!": 3,
	} {
		if got := Count([]rune(text)); got != want {
			t.Errorf("%q: %d, not %d", text, got, want)
		}
	}
	if Count(nil) != 0 || Count([]rune{-1, 'a', 0x110000, '1', 0xD800}) != 2 {
		t.Error(Count(nil), Count([]rune{-1, 'a', 0x110000, '1', 0xD800}))
	}
}

func TestP8_6WordsMakeTheText(t *testing.T) {
	all := codes()
	pick := stream()
	for range 4000 {
		text := make([]rune, pick(12))
		for i := range text {
			class := all[pick(classes)]
			text[i] = class[pick(len(class))]
		}
		for i := -1; i <= len(text)+1; i++ {
			if Is(text, i) && !grapheme.Is(text, i) {
				t.Fatalf("%X has a word boundary at %d", text, i)
			}
		}
		bounds := Bounds(text)
		at := 0
		for i := 1; i < len(bounds); i++ {
			word := api.Cut{From: at, To: bounds[i]}
			for ; at < bounds[i]; at++ {
				if Around(text, at) != word {
					t.Fatalf("Around(%X, %d) = %v, not %v", text, at, Around(text, at), word)
				}
			}
		}
		if at != len(text) || len(text) > 0 && bounds[0] != 0 {
			t.Fatalf("the words of %X end at %d", text, at)
		}
	}
}

func TestP8_7WordsOfOneKind(t *testing.T) {
	whole := func(list []int) {
		text, _ := spell(list)
		if len(list) > 0 && !slices.Equal(Bounds(text), []int{0, len(text)}) {
			t.Fatalf("%X: %v", text, Bounds(text))
		}
	}
	lists(8, []int{api.WdLetter, api.WdDigit}, whole)
	lists(20, []int{api.WdSpace}, whole)
	lists(20, []int{api.WdLetter}, whole)
	lists(20, []int{api.WdDigit}, whole)
}

func TestP8_7SpacesStayAlone(t *testing.T) {
	shared := 0
	lists(5, kinds(), func(list []int) {
		text, edges := spell(list)
		for i := 1; i < len(list); i++ {
			space := list[i] == api.WdSpace
			if (list[i-1] == api.WdSpace) != space && !Is(text, edges[i]) {
				t.Fatalf("%X has no word boundary at %d", text, edges[i])
			}
			if space && list[i-1] == api.WdSpace {
				shared++
				if Is(text, edges[i]) {
					t.Fatalf("%X has a word boundary at %d", text, edges[i])
				}
			}
		}
	})
	if shared == 0 {
		t.Error("no two Space clusters stand side by side")
	}
}

// spoil writes to all memory of the list, also to the room behind it.
func spoil[T any](l []T, with T) {
	for i := range l[:cap(l)] {
		l[:cap(l)][i] = with
	}
}

func TestR5(t *testing.T) {
	lists(3, kinds(), func(list []int) {
		spelled, edges := spell(list)
		// Behind the text is room with letters, which must be left alone and unread.
		memory := append(slices.Clone(spelled), 'a', '\'', 'a')
		text, before := memory[:len(spelled)], slices.Clone(memory)
		want := boundaries(list, edges)
		holds(t, text, want)
		if !slices.Equal(memory, before) {
			t.Fatalf("%X was written to: %X", before, memory)
		}
		bounds, again := Bounds(text), Bounds(text)
		spoil(bounds, -7)
		if !slices.Equal(memory, before) || !slices.Equal(again, want) {
			t.Fatalf("%X, with the result written to: %v", memory, again)
		}
		spoil(memory, -7)
		if !slices.Equal(again, want) {
			t.Fatalf("%v, with the argument written to", again)
		}
	})
}

func TestExamples(t *testing.T) {
	for text, want := range map[string][]int{"can't go": {0, 5, 6, 8}, "3.14!": {0, 4, 5}, "a  b": {0, 1, 3, 4}, "a.": {0, 1, 2}} {
		holds(t, []rune(text), want)
	}
	text := []rune("can't go")
	if Around(text, 8) != (api.Cut{From: 6, To: 8}) || Count(text) != 2 {
		t.Error(Around(text, 8), Count(text))
	}
}
