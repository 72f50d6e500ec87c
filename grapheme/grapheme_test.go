package grapheme

import (
	"math"
	"slices"
	"testing"

	"typecase/api"
	"typecase/props"
)

const (
	low  = math.MinInt
	high = math.MaxInt
)

// classes is the number of Cluster classes.
const classes = 15

// signs returns code points of each class, written by hand, so that the tests don't lean on another layer.
func signs() [classes][]rune {
	return [classes][]rune{
		api.ClAny:      {'a', ' ', 0x5D0, 0x4E00, -1, math.MinInt32, 0x110000, math.MaxInt32, 0xD800, 0xDFFF, 0x10FFFF, 0x1F265},
		api.ClCR:       {13},
		api.ClLF:       {10},
		api.ClControl:  {0, 9, 11, 12, 0x1F, 0xAD, 0x7F, 0x85, 0x9F, 0x61C, 0x200B, 0x200E, 0x2028, 0x2029, 0x2069, 0xFEFF},
		api.ClExtend:   {0x301, 0x300, 0x36F, 0x5BF, 0x200C, 0xFE0F, 0x1F3FB, 0x1F3FF, 0xE0020, 0xE01EF},
		api.ClZWJ:      {0x200D},
		api.ClRegional: {0x1F1E6, 0x1F1FF, 0x1F1F0},
		api.ClPrepend:  {0x600, 0x605, 0x6DD},
		api.ClSpacing:  {0x903, 0x93E, 0xE33},
		api.ClL:        {0x1100, 0x115F},
		api.ClV:        {0x1160, 0x11A7},
		api.ClT:        {0x11A8, 0x11FF},
		api.ClLV:       {0xAC00, 0xAC1C, 0xD788},
		api.ClLVT:      {0xAC01, 0xAC1B, 0xD7A3},
		api.ClPicture:  {0x1F466, 0x2600, 0x27BF, 0x1F300, 0x1F9FF},
	}
}

// spell returns a text of code points of the given classes, not the same one of a class each time.
func spell(kinds []int) []rune {
	all := signs()
	var t []rune
	for i, kind := range kinds {
		t = append(t, all[kind][(i+len(kinds))%len(all[kind])])
	}
	return t
}

// stream returns a function that returns numbers from 0 up to n, the same ones each time.
func stream() func(n int) int {
	state := uint64(1)
	return func(n int) int {
		state = state*6364136223846793005 + 1442695040888963407
		return int(state >> 33 % uint64(n))
	}
}

// texts calls visit with each list of at most most of the given classes.
func texts(most int, among []int, visit func(kinds []int)) {
	count := 1
	for size := range most + 1 {
		for code := range count {
			kinds := make([]int, size)
			for i := range kinds {
				kinds[i] = among[code%len(among)]
				code /= len(among)
			}
			visit(kinds)
		}
		count *= len(among)
	}
}

// every returns all classes.
func every() []int {
	var all []int
	for kind := range classes {
		all = append(all, kind)
	}
	return all
}

// far returns the numbers from below 0 to above n, and the ends of int.
func far(n int) []int {
	at := []int{low, low + 1, -9}
	for i := -2; i <= n+2; i++ {
		at = append(at, i)
	}
	return append(at, n+9, 1<<31, 1<<32, high-1, high)
}

func among(kind int, kinds ...int) bool { return slices.Contains(kinds, kind) }

// unbroken is the chapter's list of rules, each by itself, for a position that is neither the first nor the last.
func unbroken(kinds []int, i int) bool {
	before, after := kinds[i-1], kinds[i]
	hard := []int{api.ClCR, api.ClLF, api.ClControl}
	back := i - 2
	for back >= 0 && kinds[back] == api.ClExtend {
		back--
	}
	regionals := 0
	for regionals < i && kinds[i-1-regionals] == api.ClRegional {
		regionals++
	}
	for _, rule := range []bool{
		before == api.ClCR && after == api.ClLF,
		before == api.ClL && among(after, api.ClL, api.ClV, api.ClLV, api.ClLVT),
		among(before, api.ClLV, api.ClV) && among(after, api.ClV, api.ClT),
		among(before, api.ClLVT, api.ClT) && after == api.ClT,
		!among(before, hard...) && among(after, api.ClExtend, api.ClZWJ, api.ClSpacing),
		before == api.ClPrepend && !among(after, hard...),
		before == api.ClZWJ && after == api.ClPicture && back >= 0 && kinds[back] == api.ClPicture,
		before == api.ClRegional && after == api.ClRegional && regionals%2 == 1,
	} {
		if rule {
			return true
		}
	}
	return false
}

// boundaries returns the boundaries by the chapter's definition.
func boundaries(kinds []int) []int {
	var l []int
	for i := 0; i <= len(kinds) && len(kinds) > 0; i++ {
		if i == 0 || i == len(kinds) || !unbroken(kinds, i) {
			l = append(l, i)
		}
	}
	return l
}

// holds checks every function for the text, whose boundaries are given.
func holds(t *testing.T, text []rune, want []int) {
	t.Helper()
	if got := Bounds(text); !slices.Equal(got, want) {
		t.Fatalf("Bounds(%X) = %v, not %v", text, got, want)
	}
	var cuts []api.Cut
	for i := 1; i < len(want); i++ {
		cuts = append(cuts, api.Cut{From: want[i-1], To: want[i]})
	}
	if got := Cuts(text); !slices.Equal(got, cuts) {
		t.Fatalf("Cuts(%X) = %v, not %v", text, got, cuts)
	}
	if got := Count(text); got != len(cuts) {
		t.Fatalf("Count(%X) = %d, not %d", text, got, len(cuts))
	}
	for _, i := range far(len(text)) {
		asks(t, text, want, i)
	}
}

// asks checks what is answered for position i of the text, whose boundaries are given.
func asks(t *testing.T, text []rune, want []int, i int) {
	t.Helper()
	next, prev := len(text), 0
	for _, b := range slices.Backward(want) {
		if b > i {
			next = b
		}
	}
	for _, b := range want {
		if b < i {
			prev = b
		}
	}
	if got := Is(text, i); got != slices.Contains(want, i) {
		t.Fatalf("Is(%X, %d) is %v", text, i, got)
	}
	if got := Next(text, i); got != next {
		t.Fatalf("Next(%X, %d) = %d, not %d", text, i, got, next)
	}
	if got := Prev(text, i); got != prev {
		t.Fatalf("Prev(%X, %d) = %d, not %d", text, i, got, prev)
	}
}

// pairs has a row for each class before a position and a column for each class after it, in api's order: x where there is no boundary between the two when nothing else stands there.
func pairs() [classes]string {
	return [classes]string{
		api.ClAny:      "....xx..x......",
		api.ClCR:       "..x............",
		api.ClLF:       "...............",
		api.ClControl:  "...............",
		api.ClExtend:   "....xx..x......",
		api.ClZWJ:      "....xx..x......",
		api.ClRegional: "....xxx.x......",
		api.ClPrepend:  "x...xxxxxxxxxxx",
		api.ClSpacing:  "....xx..x......",
		api.ClL:        "....xx..xxx.xx.",
		api.ClV:        "....xx..x.xx...",
		api.ClT:        "....xx..x..x...",
		api.ClLV:       "....xx..x.xx...",
		api.ClLVT:      "....xx..x..x...",
		api.ClPicture:  "....xx..x......",
	}
}

func TestP7_1Pairs(t *testing.T) {
	for before, row := range pairs() {
		for after, mark := range row {
			want := []int{0, 1, 2}
			if mark == 'x' {
				want = []int{0, 2}
			}
			for _, a := range signs()[before] {
				for _, b := range signs()[after] {
					holds(t, []rune{a, b}, want)
				}
			}
		}
	}
}

func TestP7_1SingleCodePoints(t *testing.T) {
	holds(t, nil, nil)
	holds(t, []rune{}, nil)
	for _, all := range signs() {
		for _, r := range all {
			holds(t, []rune{r}, []int{0, 1})
		}
	}
}

// The signs of the tests are of the classes that they stand for; a mistake there would go unseen elsewhere.
func TestSigns(t *testing.T) {
	for kind, all := range signs() {
		for _, r := range all {
			if props.Of(r).Cluster != kind {
				t.Errorf("%X is of class %d, not %d", r, props.Of(r).Cluster, kind)
			}
		}
	}
}

// lineCases are texts with CR, LF, Control and Prepend, and their boundaries, written by hand.
func lineCases() map[string][]int {
	return map[string][]int{
		"\r\n": {0, 2}, "\n\r": {0, 1, 2}, "\r\r\n\n": {0, 1, 3, 4}, "\r\n\r\n": {0, 2, 4}, "\n\n": {0, 1, 2}, "\r\r": {0, 1, 2},
		"a\r\nb": {0, 1, 3, 4}, "a\n\rb": {0, 1, 2, 3, 4}, "\t\r\n\t": {0, 1, 3, 4}, "\r\t\n": {0, 1, 2, 3},
		"\r\u0301": {0, 1, 2}, "\n\u0301": {0, 1, 2}, "\t\u0301": {0, 1, 2}, "\r\u200D": {0, 1, 2}, "\n\u200D": {0, 1, 2}, "\t\u200D": {0, 1, 2},
		"\r\u0903": {0, 1, 2}, "\n\u0903": {0, 1, 2}, "\t\u0903": {0, 1, 2}, "\r\n\u0301\u0301": {0, 2, 4}, "\r\u0301\n": {0, 1, 2, 3},
		"\u0301": {0, 1}, "\u0301\u0301": {0, 2}, "\u200D\u200D": {0, 2}, "\u0903\u0301a": {0, 2, 3}, "\u0301\u200D\u0903b": {0, 3, 4},
		"e\u0301x": {0, 2, 3}, "e\u0301\u200D\u0903x": {0, 4, 5}, "e\u0903\u200D\u0301": {0, 4}, "\u0301\r": {0, 1, 2}, "\u0301\n": {0, 1, 2}, "\u0301\t": {0, 1, 2},
		"\u0600\r": {0, 1, 2}, "\u0600\n": {0, 1, 2}, "\u0600\t": {0, 1, 2}, "\u0600": {0, 1}, "a\u0600": {0, 1, 2}, "a\u0600\u0600": {0, 1, 3},
		"\u0600\u0600a": {0, 3}, "\u0600a\u0600a": {0, 2, 4}, "\u0600\u0301a": {0, 2, 3}, "\u0600\u200Da": {0, 2, 3}, "\u0600\u0600\r\n": {0, 2, 4}, "\r\u0600\n": {0, 1, 2, 3},
		"\r\u0600a": {0, 1, 3}, "\u0600\u1100\u1160a": {0, 3, 4},
	}
}

// signCases are texts with Hangul, Picture and Regional code points, and their boundaries, written by hand.
func signCases() map[string][]int {
	return map[string][]int{
		"\u1100\u1160\u11A8\u1100": {0, 3, 4}, "\u1100\u1100\u1160\u1160\u11A8\u11A8": {0, 6}, "\u1100\u11A8": {0, 1, 2}, "\u1160\u1100": {0, 1, 2}, "\u11A8\u1100\u11A8\u1160": {0, 1, 2, 3, 4},
		"\u1100\uAC00\u1160\u11A8": {0, 4}, "\u1100\uAC01\u11A8": {0, 3}, "\uAC01\u1160": {0, 1, 2}, "\uAC00\uAC00": {0, 1, 2}, "\uAC00\u1100": {0, 1, 2}, "\uAC01\uAC01\u11A8": {0, 1, 3},
		"\u1100\u0301\u1160": {0, 2, 3}, "\uAC00\u0301\u11A8": {0, 2, 3}, "\u1160\u11A8\u1160": {0, 2, 3}, "\u1100a\u1160": {0, 1, 2, 3},
		"\U0001F466\u200D\U0001F466": {0, 3}, "a\u200D\U0001F466": {0, 2, 3}, "\u200D\U0001F466": {0, 1, 2}, "\u0301\u200D\U0001F466": {0, 2, 3},
		"\U0001F466\u0301\u200D\U0001F466": {0, 4}, "\U0001F466\u0301\u0301\u0301\u200D\U0001F466x": {0, 6, 7}, "\U0001F466\U0001F466": {0, 1, 2}, "\U0001F466\u0301\U0001F466": {0, 2, 3},
		"\U0001F466\u200D\u200D\U0001F466": {0, 3, 4}, "\U0001F466\u200D\u0301\u200D\U0001F466": {0, 4, 5}, "\U0001F466\u200D\u0301\U0001F466": {0, 3, 4}, "\U0001F466\u0903\u200D\U0001F466": {0, 3, 4},
		"\U0001F466\u200D\U0001F466\u200D\U0001F466": {0, 5}, "\U0001F466\u200D\U0001F466\u0301\u200D\U0001F466": {0, 6}, "\U0001F466\u200D\U0001F466\U0001F466": {0, 3, 4},
		"\U0001F466\u200Da\u200D\U0001F466": {0, 2, 4, 5}, "\U0001F466a\u200D\U0001F466": {0, 1, 3, 4}, "\U0001F466\u200Da": {0, 2, 3}, "\U0001F466\u200D": {0, 2}, "\U0001F466\u200D\u0600\U0001F466": {0, 2, 4},
		"\u0600\U0001F466\u200D\U0001F466": {0, 4}, "\u0600\u200D\U0001F466": {0, 2, 3}, "\U0001F466\n\u200D\U0001F466": {0, 1, 2, 3, 4}, "a\U0001F466\u200D\U0001F466": {0, 1, 4},
		"\U0001F1E6": {0, 1}, "\U0001F1E6\U0001F1E6": {0, 2}, "\U0001F1E6\U0001F1E6\U0001F1E6": {0, 2, 3}, "\U0001F1E6\U0001F1E6\U0001F1E6\U0001F1E6": {0, 2, 4}, "\U0001F1E6\U0001F1E6\U0001F1E6\U0001F1E6\U0001F1E6a": {0, 2, 4, 5, 6},
		"x\U0001F1E6\U0001F1E6\U0001F1E6": {0, 1, 3, 4}, "x\U0001F1E6y\U0001F1E6\U0001F1E6z": {0, 1, 2, 3, 5, 6}, "\n\U0001F1E6\U0001F1E6\U0001F1E6": {0, 1, 3, 4},
		"\U0001F1E6\u0301\U0001F1E6\U0001F1E6": {0, 2, 4}, "\U0001F1E6\u200D\U0001F1E6": {0, 2, 3}, "\U0001F1E6\U0001F1E6\u0301\U0001F1E6\U0001F1E6": {0, 3, 5}, "\U0001F1E6\u0903\U0001F1E6": {0, 2, 3},
		"\u0600\U0001F1E6\U0001F1E6\U0001F1E6": {0, 3, 4}, "\U0001F1E6\u0600\U0001F1E6\U0001F1E6": {0, 1, 4}, "\U0001F1E6\U0001F1E6\U0001F466": {0, 2, 3},
	}
}

func TestP7_1ByHand(t *testing.T) {
	for _, cases := range []map[string][]int{lineCases(), signCases()} {
		for text, want := range cases {
			holds(t, []rune(text), want)
		}
	}
}

func TestP7_1AllShortTexts(t *testing.T) {
	check := func(kinds []int) { holds(t, spell(kinds), boundaries(kinds)) }
	texts(3, every(), check)
	texts(6, []int{api.ClAny, api.ClExtend, api.ClZWJ, api.ClPicture}, check)
	texts(9, []int{api.ClAny, api.ClRegional}, check)
	texts(5, []int{api.ClExtend, api.ClRegional, api.ClPrepend, api.ClLF}, check)
	texts(5, []int{api.ClL, api.ClV, api.ClT, api.ClLV, api.ClLVT}, check)
}

func TestP7_1LongTexts(t *testing.T) {
	pick := stream()
	for range 2000 {
		kinds := make([]int, pick(40))
		for i := range kinds {
			// Some classes come up more often, so that long runs of them do.
			kinds[i] = []int{pick(classes), api.ClExtend, api.ClZWJ, api.ClPicture, api.ClRegional}[pick(5)]
		}
		holds(t, spell(kinds), boundaries(kinds))
	}
}

// Any code points, most of them of no row of the table, and values that are none.
func TestP7_1AnyCodePoints(t *testing.T) {
	pick := stream()
	for range 2000 {
		text := make([]rune, pick(12))
		var kinds []int
		for i := range text {
			text[i] = rune(pick([]int{0x500, 0x3000, 0x20000, 0x120000, 1 << 32}[pick(5)]))
			kinds = append(kinds, props.Of(text[i]).Cluster)
		}
		holds(t, text, boundaries(kinds))
	}
}

// repeated returns a text of n code points in which the given ones come again and again.
func repeated(n int, of ...rune) []rune {
	t := make([]rune, n)
	for i := range t {
		t[i] = of[i%len(of)]
	}
	return t
}

// As many code points as R8 lets a list have: the runs of them aren't gone through once for each position.
func TestP7_1LongRuns(t *testing.T) {
	const n = 1 << 16
	for _, c := range []struct {
		of    []rune
		count int
	}{
		{[]rune{'a'}, n}, {[]rune{10}, n}, {[]rune{13, 10}, n / 2}, {[]rune{0x301}, 1}, {[]rune{0x200D}, 1}, {[]rune{0x600}, 1},
		{[]rune{0x1F1E6}, n / 2}, {[]rune{0x1F466, 0x200D}, 1}, {[]rune{0x1F466, 0x301, 0x301, 0x200D}, 1}, {[]rune{'a', 0x301}, n / 2}, {[]rune{0x1100}, 1},
		{[]rune{0x1160}, 1}, {[]rune{0x1F466}, n}, {[]rune{0x600, 10}, n},
	} {
		text := repeated(n, c.of...)
		if Count(text) != c.count || len(Bounds(text)) != c.count+1 || len(Cuts(text)) != c.count {
			t.Errorf("%X, again and again: %d, %d and %d", c.of, Count(text), len(Bounds(text)), len(Cuts(text)))
		}
		if c.count == 1 && (Next(text, 0) != n || Prev(text, n) != 0 || Next(text, n-1) != n || Prev(text, 1) != 0) {
			t.Errorf("%X, again and again: %d, %d", c.of, Next(text, 0), Prev(text, n))
		}
	}
}

func TestP7_2NextAndPrev(t *testing.T) {
	text := []rune{'a', 0x301, 0x301, 13, 10, 'b'}
	for _, c := range []struct{ i, next, prev int }{
		{low, 0, 0}, {-2, 0, 0}, {-1, 0, 0}, {0, 3, 0}, {1, 3, 0}, {2, 3, 0}, {3, 5, 0}, {4, 5, 3}, {5, 6, 3}, {6, 6, 5}, {7, 6, 6}, {8, 6, 6}, {high, 6, 6},
	} {
		if Next(text, c.i) != c.next || Prev(text, c.i) != c.prev {
			t.Errorf("%d: %d and %d, not %d and %d", c.i, Next(text, c.i), Prev(text, c.i), c.next, c.prev)
		}
	}
	for _, i := range far(0) {
		if Next(nil, i) != 0 || Prev(nil, i) != 0 || Next([]rune{}, i) != 0 || Prev([]rune{}, i) != 0 {
			t.Errorf("%d in the empty text: %d and %d", i, Next(nil, i), Prev(nil, i))
		}
	}
}

// windowEnd is the chapter's definition of the end of the run that starts at position i: the longest stretch of which all are of one of the two kinds.
func windowEnd(kinds []int, i int) int {
	end := i
	for _, kind := range [][]int{{api.ClRegional}, {api.ClExtend, api.ClZWJ}} {
		for to := i; to <= len(kinds); to++ {
			if !slices.ContainsFunc(kinds[i:to], func(k int) bool { return !among(k, kind...) }) {
				end = max(end, to)
			}
		}
	}
	return end
}

func TestP7_3Window(t *testing.T) {
	check := func(kinds []int) {
		text := spell(kinds)
		for _, i := range far(len(kinds)) {
			from, to := 0, 0
			if i >= 0 && i <= len(kinds) {
				from, to = i, windowEnd(kinds, i)
			}
			if a, b := Window(text, i); a != from || b != to {
				t.Fatalf("Window(%X, %d) = %d, %d, not %d, %d", text, i, a, b, from, to)
			}
		}
	}
	texts(3, every(), check)
	texts(6, []int{api.ClAny, api.ClExtend, api.ClZWJ, api.ClRegional}, check)
}

func TestP7_3WindowByHand(t *testing.T) {
	const flag, person = 0x1F1E6, 0x1F466
	for _, c := range []struct {
		text        []rune
		i, from, to int
	}{
		{nil, 0, 0, 0}, {nil, 1, 0, 0}, {nil, -1, 0, 0}, {nil, low, 0, 0}, {nil, high, 0, 0},
		{[]rune{'a', 'b'}, 0, 0, 0}, {[]rune{'a', 'b'}, 1, 1, 1}, {[]rune{'a', 'b'}, 2, 2, 2}, {[]rune{'a', 'b'}, 3, 0, 0}, {[]rune{'a', 'b'}, -1, 0, 0},
		{[]rune{flag, flag, flag}, 0, 0, 3}, {[]rune{flag, flag, flag}, 1, 1, 3}, {[]rune{flag, flag, flag}, 2, 2, 3}, {[]rune{flag, flag, flag}, 3, 3, 3}, {[]rune{flag, flag, flag}, 4, 0, 0},
		{[]rune{flag, 'a', flag}, 0, 0, 1}, {[]rune{flag, 0x301, flag}, 0, 0, 1}, {[]rune{flag, 0x301, flag}, 1, 1, 2}, {[]rune{flag, 0x200D, 0x301, 'a'}, 1, 1, 3},
		{[]rune{0x301, 0x200D, 0x301, 0x200D}, 0, 0, 4}, {[]rune{0x200D, 0x301, flag, flag}, 0, 0, 2}, {[]rune{0x200D, 0x301, flag, flag}, 2, 2, 4}, {[]rune{0x200D, person}, 0, 0, 1},
		{[]rune{person, 0x200D}, 0, 0, 0}, {[]rune{0x903, 0x301}, 0, 0, 0}, {[]rune{0x600, 0x301}, 0, 0, 0}, {[]rune{-5, 0x301}, 1, 1, 2}, {[]rune{13, 10}, 0, 0, 0}, {[]rune{13, 10}, 1, 1, 1},
	} {
		if a, b := Window(c.text, c.i); a != c.from || b != c.to {
			t.Errorf("Window(%X, %d) = %d, %d, not %d, %d", c.text, c.i, a, b, c.from, c.to)
		}
	}
	if a, b := Window(repeated(1<<16, flag), 5); a != 5 || b != 1<<16 {
		t.Error(a, b)
	}
}

func TestP7_4ClustersMakeTheText(t *testing.T) {
	texts(4, every(), func(kinds []int) {
		text := spell(kinds)
		at, bounds := 0, []int(nil)
		for _, c := range Cuts(text) {
			if c.From != at || c.To <= c.From {
				t.Fatal(text, c)
			}
			at = c.To
		}
		for i := -1; i <= len(text)+1; i++ {
			if Is(text, i) {
				bounds = append(bounds, i)
			}
		}
		if at != len(text) || !slices.Equal(bounds, Bounds(text)) {
			t.Fatal(text, at, bounds)
		}
	})
}

// local checks P7.5 for x u y and x v y.
func local(t *testing.T, x, u, v, y []rune) {
	t.Helper()
	first, second := slices.Concat(x, u, y), slices.Concat(x, v, y)
	for i := range x {
		if Is(first, i) != Is(second, i) {
			t.Fatalf("%X with %X and %X before %X: position %d", x, u, v, y, i)
		}
	}
	_, end := Window(y, 0)
	for i := end + 1; i <= len(y); i++ {
		if Is(first, len(x)+len(u)+i) != Is(second, len(x)+len(v)+i) {
			t.Fatalf("%X and %X behind %X, before %X: position %d of it", u, v, x, y, i)
		}
	}
}

// Each text is held against the one without u, and so, by way of that one, against all others.
func TestP7_5Locality(t *testing.T) {
	some := []int{api.ClAny, api.ClExtend, api.ClZWJ, api.ClPicture, api.ClRegional}
	texts(2, some, func(u []int) {
		texts(2, some, func(x []int) {
			texts(4, some, func(y []int) { local(t, spell(x), spell(u), nil, spell(y)) })
		})
	})
	texts(1, every(), func(u []int) {
		texts(1, every(), func(x []int) {
			texts(2, every(), func(y []int) { local(t, spell(x), spell(u), nil, spell(y)) })
		})
	})
	pick := stream()
	for range 20000 {
		var parts [4][]rune
		for i := range parts {
			for range pick(8) {
				parts[i] = append(parts[i], signs()[[]int{pick(classes), some[pick(5)]}[pick(2)]][0])
			}
		}
		local(t, parts[0], parts[1], parts[2], parts[3])
	}
}

// The run that Window tells of must not be shorter: what stands before it moves boundaries up to its end.
func TestP7_5WindowIsNeeded(t *testing.T) {
	const flag, person = 0x1F1E6, 0x1F466
	odd, even := []rune{flag, flag, flag}, []rune{flag, flag, flag, flag}
	if Is(odd, 1) || Is(odd[1:], 1) || !Is(odd, 2) || !Is(even[1:], 2) || Is(even, 3) {
		t.Error(Bounds(odd), Bounds(even))
	}
	joined, apart := []rune{person, 0x301, 0x200D, person}, []rune{'a', 0x301, 0x200D, person}
	if Is(joined, 3) || !Is(apart, 3) {
		t.Error(Bounds(joined), Bounds(apart))
	}
}

func TestP7_6BehindLineEnds(t *testing.T) {
	ends := 0
	texts(4, every(), func(kinds []int) {
		text := spell(kinds)
		for i, kind := range kinds {
			hard := among(kind, api.ClCR, api.ClLF, api.ClControl)
			if !hard || kind == api.ClCR && i+1 < len(kinds) && kinds[i+1] == api.ClLF {
				continue
			}
			ends++
			if !Is(text, i+1) {
				t.Fatalf("%X has no boundary at %d", text, i+1)
			}
		}
	})
	if ends == 0 {
		t.Error("there are no line ends")
	}
}

func TestP7_6TextsOfAny(t *testing.T) {
	texts(6, []int{api.ClAny}, func(kinds []int) {
		if len(kinds) > 0 {
			holds(t, spell(kinds), boundaries(kinds))
			if Count(spell(kinds)) != len(kinds) {
				t.Fatal(kinds)
			}
		}
	})
	text := signs()[api.ClAny]
	for i := range len(text) + 1 {
		if !Is(text, i) || Bounds(text)[i] != i {
			t.Errorf("no boundary at %d of %X", i, text)
		}
	}
}

// spoil writes to all memory of the list, also to the room behind it.
func spoil[T any](l []T, with T) {
	for i := range l[:cap(l)] {
		l[:cap(l)][i] = with
	}
}

func TestR5(t *testing.T) {
	texts(3, every(), func(kinds []int) {
		memory := spell(append(kinds, api.ClExtend, api.ClRegional, api.ClPicture))
		before := slices.Clone(memory)
		text := memory[:len(kinds)]
		want := boundaries(kinds)
		holds(t, text, want)
		for i := range len(text) + 1 {
			Window(text, i)
		}
		if !slices.Equal(memory, before) {
			t.Fatalf("%X was written to: %X", before, memory)
		}
		bounds, again, cuts, more := Bounds(text), Bounds(text), Cuts(text), Cuts(text)
		spoil(bounds, -7)
		spoil(cuts, api.Cut{From: -7, To: -7})
		if !slices.Equal(memory, before) || !slices.Equal(again, want) || slices.Contains(more, api.Cut{From: -7, To: -7}) {
			t.Fatalf("%X, with the results written to: %v, %v", memory, again, more)
		}
		spoil(memory, -7)
		if !slices.Equal(again, want) || slices.Contains(more, api.Cut{From: -7, To: -7}) {
			t.Fatalf("%v, %v, with the argument written to", again, more)
		}
	})
}

func TestExamples(t *testing.T) {
	for _, c := range []struct {
		text []rune
		want []int
	}{
		{[]rune{13, 10}, []int{0, 2}},
		{[]rune{'e', 0x301, 'x'}, []int{0, 2, 3}},
		{[]rune{0x1F1E6, 0x1F1E7, 0x1F1E8, 0x1F1E9}, []int{0, 2, 4}},
		{[]rune{0x1F466, 0x200D, 0x1F466}, []int{0, 3}},
		{[]rune{'a', 0x200D, 0x1F466}, []int{0, 2, 3}},
		{[]rune{0x600, 'a'}, []int{0, 2}},
	} {
		holds(t, c.text, c.want)
	}
	if from, to := Window([]rune{'a', 0x301, 0x301, 'b'}, 1); from != 1 || to != 3 {
		t.Error(from, to)
	}
}
