package brackets

import (
	"slices"
	"strings"
	"testing"

	"typecase/api"
	"typecase/props"
)

// The code points of the tests are what they stand for; a mistake there would go unseen elsewhere.
func TestCodes(t *testing.T) {
	for _, both := range pairsOfTable() {
		open, closed := props.Of(both[0]), props.Of(both[1])
		if open.Pair != both[1] || !open.Opens || closed.Pair != both[0] || closed.Opens {
			t.Errorf("%X are no pair", both)
		}
	}
	for _, code := range marks() {
		if p := props.Of(code); p.Bidi != nsm || p.Pair != 0 {
			t.Errorf("%X is no mark", code)
		}
	}
	for _, code := range others() {
		if p := props.Of(code); p.Bidi == nsm || p.Pair != 0 {
			t.Errorf("%X is a mark or a bracket", code)
		}
	}
	for code := rune(-9); code <= 0x110009; code++ {
		if _, side := shape(code); (side >= 0) != (props.Of(code).Pair != 0) {
			t.Errorf("%X is a bracket by one table alone", code)
		}
	}
}

// handPairs are patterns and their pairs, written by hand.
func handPairs() map[string][][2]int {
	return map[string][][2]int{
		"": {}, "l": {}, ".": {}, "(": {}, ")": {}, "((": {}, "))": {}, ")(": {}, "()": {{0, 1}}, "[]": {{0, 1}}, "{}": {{0, 1}}, "(l)": {{0, 2}}, "l(r)e": {{1, 3}}, "...(...)...": {{3, 7}},
		"(]": {}, "[)": {}, "(}": {}, "<)": {}, "(>": {}, "{c": {}, "(.]": {}, ")]}>c": {}, "([{<o": {},
		"()()": {{0, 1}, {2, 3}}, "()[]": {{0, 1}, {2, 3}}, "[](){}": {{0, 1}, {2, 3}, {4, 5}}, "())": {{0, 1}}, "(()": {{1, 2}}, ")()": {{1, 2}}, "()(": {{0, 1}}, "(()(": {{1, 2}}, "())()": {{0, 1}, {3, 4}},
		"(())": {{0, 3}, {1, 2}}, "([])": {{0, 3}, {1, 2}}, "((()))": {{0, 5}, {1, 4}, {2, 3}}, "(()())": {{0, 5}, {1, 2}, {3, 4}}, "([]{})": {{0, 5}, {1, 2}, {3, 4}}, "([{}])()": {{0, 5}, {1, 4}, {2, 3}, {6, 7}}, "()(())": {{0, 1}, {2, 5}, {3, 4}}, "(l[r]e)a": {{0, 6}, {2, 4}},
		"([)]": {{0, 2}}, "[(])": {{0, 2}}, "([)]()": {{0, 2}, {4, 5}}, "([[[)]]]": {{0, 4}}, "([[[)": {{0, 4}}, "([{)}]": {{0, 3}}, "[([)]": {{0, 4}, {1, 3}}, "((])": {{1, 3}}, "(([)])": {{0, 5}, {1, 3}}, "([)": {{0, 2}}, "(])": {{0, 2}}, "[(])[]": {{0, 2}, {4, 5}}, "([)])": {{0, 2}}, "(([))]": {{0, 4}, {1, 3}}, "{(}[)]": {{0, 2}, {3, 5}}, "({[}])": {{0, 5}, {1, 3}},
		"([](){})": {{0, 7}, {1, 2}, {3, 4}, {5, 6}}, "[()": {{1, 2}}, "[()]]": {{0, 3}, {1, 2}}, "(([]": {{2, 3}}, "({[]": {{2, 3}}, "(({[]}": {{2, 5}, {3, 4}},
		"<>": {{0, 1}}, "oc": {{0, 1}}, "<c": {{0, 1}}, "o>": {{0, 1}}, "<o>c": {{0, 3}, {1, 2}}, "<oc>": {{0, 3}, {1, 2}}, "o<c>": {{0, 3}, {1, 2}}, "<>oc<co>": {{0, 1}, {2, 3}, {4, 5}, {6, 7}}, "(<)c": {{0, 2}}, "<(c)": {{0, 2}}, ">o": {}, "c<": {}, "o<": {}, "<<c": {{1, 2}}, "oo>>": {{0, 3}, {1, 2}}, "<]c": {{0, 2}}, "((<c": {{2, 3}},
		"x)": {}, "(y": {}, "[z": {}, "xy": {}, "(x)": {{0, 2}}, "(y)": {{0, 2}}, "x()": {{1, 2}}, "(xy)": {{0, 3}}, "[z]": {{0, 2}}, "[(z])": {{0, 3}}, "x(y)": {{1, 3}}, "(x))": {{0, 2}}, "((y)": {{1, 3}}, "?(?)?": {{1, 3}}, "m(n)L": {{1, 3}}, "(mRE)": {{0, 4}},
	}
}

func TestP9_1ByHand(t *testing.T) {
	for pattern, want := range handPairs() {
		text, classes := spell(pattern)
		if got := Pairs(text, classes); !slices.Equal(got, want) {
			t.Errorf("%s: %v, not %v", pattern, got, want)
		}
		holds(t, text, classes, 0, 1)
	}
}

// Every bracket closes with all that it may close with, and with nothing else.
func TestP9_1EveryBracket(t *testing.T) {
	both := []int{on, on}
	for i, a := range pairsOfTable() {
		for j, b := range pairsOfTable() {
			angles := i >= 4 && i <= 5 && j >= 4 && j <= 5
			fit := i == j || angles
			if got := Pairs([]rune{a[0], b[1]}, both); slices.Equal(got, [][2]int{{0, 1}}) != fit || len(got) > 1 {
				t.Errorf("%X and %X: %v", a[0], b[1], got)
			}
			for _, text := range [][]rune{{a[0], b[0]}, {a[1], b[0]}, {a[1], b[1]}} {
				if got := Pairs(text, both); len(got) != 0 {
					t.Errorf("%X: %v", text, got)
				}
			}
		}
	}
}

// among returns the pairs of 63 opening brackets, the given code points, and what closes the 63, and whether they are those that there are if none of the code points is a bracket.
func among(codes []rune) (pairs [][2]int, apart bool) {
	all := pairsOfTable()
	last := len(codes) + 2*63 - 1
	text, want := make([]rune, last+1), make([][2]int, 63)
	for i := range want {
		pair := all[i%len(all)]
		text[i], text[last-i] = pair[0], pair[1]
		want[i] = [2]int{i, last - i}
	}
	copy(text[63:], codes)
	pairs = Pairs(text, slices.Repeat([]int{on}, last+1))
	return pairs, slices.Equal(pairs, want)
}

// What has no Pair is no bracket, whatever else it is: a closing bracket would close one of those before it, and an opening one would be too many.
func TestP9_1NoBrackets(t *testing.T) {
	check := func(codes []rune) {
		if pairs, apart := among(codes); !apart {
			t.Errorf("%X to %X: %v", codes[0], codes[len(codes)-1], pairs)
		}
	}
	codes := others()
	for code := rune(-0x100); code <= 0x110100; code++ {
		if _, side := shape(code); side < 0 {
			codes = append(codes, code)
		}
		if code&0xFFF == 0 {
			check(codes)
			codes = nil
		}
	}
	check(codes)
	for _, pair := range pairsOfTable() {
		for _, bracket := range pair {
			if _, apart := among([]rune{'a', bracket, 'a'}); apart {
				t.Errorf("%X is no bracket", bracket)
			}
		}
	}
}

func TestP9_1OtherClasses(t *testing.T) {
	for _, both := range pairsOfTable() {
		text := []rune{both[0], 'a', both[1]}
		for _, class := range everyClass() {
			for _, classes := range [][]int{{class, l, on}, {on, l, class}, {class, l, class}, {class, class, class}} {
				got := Pairs(text, classes)
				if class == on && !slices.Equal(got, [][2]int{{0, 2}}) || class != on && len(got) != 0 {
					t.Errorf("%X, %v: %v", text, classes, got)
				}
			}
			if got := Pairs(text, []int{on, class, on}); !slices.Equal(got, [][2]int{{0, 2}}) {
				t.Errorf("%X with %d in the middle: %v", text, class, got)
			}
		}
	}
}

func TestP9_1DifferentLengths(t *testing.T) {
	text, classes := spell("l(r)(e)[a]()")
	for i := range len(text) + 1 {
		for j := range len(classes) + 1 {
			pairs := Pairs(text[:i], classes[:j])
			if i != j && len(pairs) != 0 || i == j && !slices.Equal(pairs, pairsByChapter(text[:i], classes[:j])) {
				t.Errorf("%d and %d: %v", i, j, pairs)
			}
		}
	}
	if len(Pairs(nil, []int{on, on})) != 0 || len(Pairs([]rune("()"), nil)) != 0 || len(Pairs(nil, nil)) != 0 || len(Pairs([]rune{}, []int{})) != 0 {
		t.Error("there are pairs of nothing")
	}
}

// deep returns n opening brackets and n closing ones, of several kinds, with the pairs that they make from position at on.
func deep(n, at int) (pattern string, pairs [][2]int) {
	const opening, closing = "([{<o", ")]}c>"
	ahead, behind := "", ""
	for i := range n {
		ahead += opening[i%5 : i%5+1]
		behind = closing[i%5:i%5+1] + behind
		pairs = append(pairs, [2]int{at + i, at + 2*n - 1 - i})
	}
	return ahead + behind, pairs
}

func TestP9_1Depth(t *testing.T) {
	for n := range 80 {
		pattern, want := deep(n, 0)
		if n > 63 {
			want = nil
		}
		text, classes := spell(pattern)
		if got := Pairs(text, classes); !slices.Equal(got, want) {
			t.Errorf("%d brackets: %v", n, got)
		}
		holds(t, text, classes, 0, 1)
		text, classes = spell("()[]" + pattern + "{}")
		want = [][2]int{{0, 1}, {2, 3}}
		if n <= 63 {
			_, pairs := deep(n, 4)
			want = append(append(want, pairs...), [2]int{4 + 2*n, 5 + 2*n})
		}
		if got := Pairs(text, classes); !slices.Equal(got, want) {
			t.Errorf("%d brackets among others: %v", n, got)
		}
		holds(t, text, classes, 0, 1)
	}
}

// full is a stack that holds all it may.
func full() string { return strings.Repeat("(", 63) }

func TestP9_1FullStack(t *testing.T) {
	emptied, _ := deep(63, 0)
	for _, c := range []struct {
		pattern string
		count   int
		last    [2]int
	}{
		{full(), 0, [2]int{}}, {full() + ")", 1, [2]int{62, 63}}, {full() + "()", 0, [2]int{}}, {full() + "[]", 0, [2]int{}}, {full() + "[)", 0, [2]int{}}, {full() + "[))))", 0, [2]int{}}, {full() + "o)", 0, [2]int{}},
		{full() + ")()", 2, [2]int{64, 65}}, {full() + ")(()", 1, [2]int{62, 63}}, {full() + ")(())))", 1, [2]int{62, 63}}, {full() + "))([[)", 2, [2]int{62, 63}}, {full() + "))([)", 3, [2]int{65, 67}}, {full() + "))([])", 4, [2]int{65, 68}},
		{full() + "]})", 1, [2]int{62, 65}}, {full() + "x)", 1, [2]int{62, 64}}, {full() + "xxxx.lryz)", 1, [2]int{62, 72}}, {"x" + full() + ")", 1, [2]int{63, 64}}, {"))]" + full() + ")", 1, [2]int{65, 66}}, {"()" + full() + "()", 1, [2]int{0, 1}},
		{"[" + full()[1:] + "]" + full() + ")", 2, [2]int{126, 127}}, {"[" + full()[1:] + "]()", 2, [2]int{64, 65}}, {"[" + full()[1:] + "](" + full() + ")", 1, [2]int{0, 63}}, {"[" + full() + "])", 0, [2]int{}}, {"[" + full()[1:] + ")])()", 3, [2]int{66, 67}},
		{emptied + "()", 64, [2]int{126, 127}}, {emptied + full() + ")", 64, [2]int{188, 189}}, {emptied + full() + "()", 63, [2]int{62, 63}}, {emptied + emptied, 126, [2]int{188, 189}}, {emptied + emptied + emptied, 189, [2]int{314, 315}}, {emptied + "))))" + emptied, 126, [2]int{192, 193}},
	} {
		text, classes := spell(c.pattern)
		got := Pairs(text, classes)
		if len(got) != c.count || c.count > 0 && !slices.Contains(got, c.last) {
			t.Errorf("%s: %v", c.pattern, got)
		}
		holds(t, text, classes, 0, 1)
	}
}

// What the scan doesn't reach stays as it is.
func TestP9_2FullStack(t *testing.T) {
	for _, c := range []struct{ pattern, ahead, behind string }{
		{"(l)" + full() + "(l)", "LLL", strings.Repeat(".", 64) + "L."}, {full() + "l)(l)", strings.Repeat(".", 62), "LLLLLL"}, {full() + "l)((l)", strings.Repeat(".", 62), "LLL..L."}, {full() + "(l)", strings.Repeat(".", 64), "L."},
		{full() + "l" + strings.Repeat(")", 63), "", strings.Repeat("L", 127)}, {"(" + full() + "l" + strings.Repeat(")", 64), strings.Repeat(".", 64), "L" + strings.Repeat(".", 64)},
	} {
		text, classes := spell(c.pattern)
		if got := tell(Resolve(text, classes, 0, l)); got != c.ahead+c.behind {
			t.Errorf("%s: %s, not %s", c.pattern, got, c.ahead+c.behind)
		}
		holds(t, text, classes, 0, 1)
	}
}

// handResolved are patterns and their classes after the rule, written by hand: at an even level with sos L and R, and at an odd one with sos L and R.
func handResolved() map[string][4]string {
	return map[string][4]string{
		"": {"", "", "", ""}, "l": {"L", "L", "L", "L"}, "()": {"..", "..", "..", ".."}, "(.)": {"...", "...", "...", "..."}, "(l": {".L", ".L", ".L", ".L"}, "l)": {"L.", "L.", "L.", "L."}, "(l]": {".L.", ".L.", ".L.", ".L."},
		"(l)": {"LLL", "LLL", "LLL", "RLR"}, "(r)": {"LRL", "RRR", "RRR", "RRR"}, "(e)": {"LEL", "RER", "RER", "RER"}, "(a)": {"LAL", "RAR", "RAR", "RAR"}, "<.l.c": {"L.L.L", "L.L.L", "L.L.L", "R.L.R"},
		"(lr)": {"LLRL", "LLRL", "RLRR", "RLRR"}, "(rl)": {"LRLL", "LRLL", "RRLR", "RRLR"}, "(le)": {"LLEL", "LLEL", "RLER", "RLER"}, "(al)": {"LALL", "LALL", "RALR", "RALR"}, "(ea)": {"LEAL", "REAR", "REAR", "REAR"},
		"l(l)": {"LLLL", "LLLL", "LLLL", "LLLL"}, "l(r)": {"LLRL", "LLRL", "LRRR", "LRRR"}, "l(e)": {"LLEL", "LLEL", "LRER", "LRER"}, "r(r)": {"RRRR", "RRRR", "RRRR", "RRRR"}, "r(l)": {"RLLL", "RLLL", "RRLR", "RRLR"}, "e(l)": {"ELLL", "ELLL", "ERLR", "ERLR"},
		"a(l)": {"ALLL", "ALLL", "ARLR", "ARLR"}, "e(r)": {"ERRR", "ERRR", "ERRR", "ERRR"}, "a(e)": {"ARER", "ARER", "ARER", "ARER"}, "l(.)": {"L...", "L...", "L...", "L..."}, "r()": {"R..", "R..", "R..", "R.."},
		".(l)": {".LLL", ".LLL", ".LLL", ".RLR"}, ".(r)": {".LRL", ".RRR", ".RRR", ".RRR"}, "r..(l)": {"R..LLL", "R..LLL", "R..RLR", "R..RLR"}, "l..(r)": {"L..LRL", "L..LRL", "L..RRR", "L..RRR"}, "rl.(l)": {"RL.LLL", "RL.LLL", "RL.LLL", "RL.LLL"},
		"lr.(l)": {"LR.LLL", "LR.LLL", "LR.RLR", "LR.RLR"}, "le.(l)": {"LE.LLL", "LE.LLL", "LE.RLR", "LE.RLR"}, "el.(r)": {"EL.LRL", "EL.LRL", "EL.RRR", "EL.RRR"}, "(l)r": {"LLLR", "LLLR", "LLLR", "RLRR"}, "(r)l": {"LRLL", "RRRL", "RRRL", "RRRL"},
		"((l))": {"LLLLL", "LLLLL", "LLLLL", "RRLRR"}, "(.(r).)": {"L.LRL.L", "R.RRR.R", "R.RRR.R", "R.RRR.R"}, "(l(l))": {"LLLLLL", "LLLLLL", "LLLLLL", "RLLLLR"}, "(l(r))": {"LLLRLL", "LLLRLL", "RLRRRR", "RLRRRR"}, "((l).)": {"LLLL.L", "LLLL.L", "LLLL.L", "RRLR.R"},
		"((.)l)": {"L...LL", "L...LL", "L...LL", "R...LR"}, "(())": {"....", "....", "....", "...."}, "[(l)r]": {"LLLLRL", "LLLLRL", "RRLRRR", "RRLRRR"}, "l(.(l)r)": {"LL.LLLRL", "LL.LLLRL", "LR.RLRRR", "LR.RLRRR"}, "r(.(r)l)": {"RL.LRLLL", "RL.LRLLL", "RR.RRRLR", "RR.RRRLR"},
		"l(rl)(l)": {"LLRLLLLL", "LLRLLLLL", "LRRLRRLR", "LRRLRRLR"}, "r(lr)(r)": {"RLLRLLRL", "RLLRLLRL", "RRLRRRRR", "RRLRRRRR"}, "l(rl)(.)": {"LLRLL...", "LLRLL...", "LRRLR...", "LRRLR..."}, "(l)(l)": {"LLLLLL", "LLLLLL", "LLLLLL", "RLRRLR"}, "(r)(r)": {"LRLLRL", "RRRRRR", "RRRRRR", "RRRRRR"},
		"(.)(l)": {"...LLL", "...LLL", "...LLL", "...RLR"}, "([l)r]": {"L.LLR.", "L.LLR.", "L.LLR.", "R.LRR."}, "l([r)l]": {"LL.RLL.", "LL.RLL.", "LR.RRL.", "LR.RRL."}, "[l(]r)": {"LL.LR.", "LL.LR.", "LL.LR.", "RL.RR."}, "(l]r": {".L.R", ".L.R", ".L.R", ".L.R"},
		"(lx)": {"LLLL", "LLLL", "LLLL", "RLLR"}, "(y)": {"LRL", "RRR", "RRR", "RRR"}, "x(l)": {"LLLL", "LLLL", "LLLL", "LLLL"}, "y(l)": {"RLLL", "RLLL", "RRLR", "RRLR"}, "[lz.]": {"LLW.L", "LLW.L", "LLW.L", "RLW.R"}, "[z]": {".W.", ".W.", ".W.", ".W."}, "xly": {"LLR", "LLR", "LLR", "LLR"},
	}
}

// handMarked are as handResolved, with marks among the signs.
func handMarked() map[string][4]string {
	return map[string][4]string{
		"(l)m": {"LLLL", "LLLL", "LLLL", "RLRR"}, "(l)n": {"LLLL", "LLLL", "LLLL", "RLRR"}, "(ml)": {"LLLL", "LLLL", "LLLL", "RRLR"}, "(nl)": {"LLLL", "LLLL", "LLLL", "RRLR"}, "(mnl)nmn": {"LLLLLLLL", "LLLLLLLL", "LLLLLLLL", "RRRLRRRR"}, "(r)mm.m": {"LRLLL..", "RRRRR..", "RRRRR..", "RRRRR.."},
		"(lm)": {"LL.L", "LL.L", "LL.L", "RL.R"}, "(l.m)": {"LL..L", "LL..L", "LL..L", "RL..R"}, "m(l)": {".LLL", ".LLL", ".LLL", ".RLR"}, "(m)m": {"....", "....", "....", "...."}, "(nm)nm": {".N.." + "N.", ".N.." + "N.", ".N.." + "N.", ".N.." + "N."}, "(m)L": {"...L", "...L", "...L", "...L"}, "(.)R": {"...R", "...R", "...R", "...R"},
		"(l)?": {"LLLN", "LLLN", "LLLN", "RLRN"}, "(?ml)": {"LN.LL", "LN.LL", "LN.LL", "RN.LR"}, "(l)m?m": {"LLLLN.", "LLLLN.", "LLLLN.", "RLRRN."}, "(l)ml": {"LLLLL", "LLLLL", "LLLLL", "RLRRL"}, "(m": {"..", "..", "..", ".."}, ")m": {"..", "..", "..", ".."}, "(lm": {".L.", ".L.", ".L.", ".L."},
		"(L)": {"LLL", "LLL", "LLL", "RRR"}, "(R)": {"LLL", "RRR", "RRR", "RRR"}, "(E)": {"LLL", "RRR", "RRR", "RRR"}, "(RL)L": {"LLLLL", "LLLLL", "RRRRR", "RRRRR"}, "(l)R": {"LLLL", "LLLL", "LLLL", "RLRR"}, "(r)L": {"LRLL", "RRRR", "RRRR", "RRRR"}, "(l)E": {"LLLL", "LLLL", "LLLL", "RLRR"}, "(.R)": {"L.RL", "R.RR", "R.RR", "R.RR"}, "(.mL)": {"L..LL", "L..LL", "L..LL", "R..LR"},
		"R(l)": {"RLLL", "RLLL", "RRLR", "RRLR"}, "L(l)": {"LLLL", "LLLL", "LLLL", "LLLL"}, "(rl)L(l)": {"LRLLLLLL", "LRLLLLLL", "RRLRRRLR", "RRLRRRLR"}, "l(rl)m(l)": {"LLRLLLLLL", "LLRLLLLLL", "LRRLRRRLR", "LRRLRRRLR"}, "(.)L(l)": {"...LLLL", "...LLLL", "...LLLL", "...LLLL"}, "r(.)L(l)": {"R...LLLL", "R...LLLL", "R...LLLL", "R...LLLL"},
		"(mL(l)r)": {"LLLLLLRL", "LLLLLLRL", "RRRRLRRR", "RRRRLRRR"}, "(n(l)m)m": {"LLLLLLLL", "LLLLLLLL", "LLLLLLLL", "RRRLRRRR"}, "((l)m)m": {"LLLLLLL", "LLLLLLL", "LLLLLLL", "RRLRRRR"}, "([ml)m]m": {"L..LLL..", "L..LLL..", "L..LLL..", "R..LRR.."}, "(m(m)l)": {"LL...LL", "LL...LL", "LL...LL", "RR...LR"}, "xml)m": {"L.L..", "L.L..", "L.L..", "L.L.."},
		"(l)xm": {"LLLL.", "LLLL.", "LLLL.", "RLRL."}, "(l)[m]m": {"LLL....", "LLL....", "LLL....", "RLR...."}, "(l)ym": {"LLLR.", "LLLR.", "LLLR.", "RLRR."},
	}
}

func TestP9_2ByHand(t *testing.T) {
	for _, cases := range []map[string][4]string{handResolved(), handMarked()} {
		for pattern, wants := range cases {
			text, classes := spell(pattern)
			for i, want := range wants {
				level, sos := i/2, []int{l, r}[i%2]
				if got := tell(Resolve(text, classes, level, sos)); got != want {
					t.Errorf("%s at level %d after %d: %s, not %s", pattern, level, sos, got, want)
				}
			}
			holds(t, text, classes, 0, 1)
		}
	}
}

// levels are even and odd ones, written by hand.
func levels() (even, odd []int) {
	return []int{0, 2, 4, 62, 124, 126, 128, 1 << 32, -2, -4, -1 << 32, low, low + 2, high - 1}, []int{1, 3, 5, 61, 125, 127, 255, 1<<32 + 1, -1, -3, -125, low + 1, high - 2, high}
}

func TestP9_2Levels(t *testing.T) {
	even, odd := levels()
	cases := handResolved()
	for i, all := range [][]int{even, odd} {
		for _, level := range all {
			for pattern, wants := range cases {
				text, classes := spell(pattern)
				before, after := Resolve(text, classes, level, l), Resolve(text, classes, level, r)
				if tell(before) != wants[2*i] || tell(after) != wants[2*i+1] {
					t.Errorf("%s at level %d: %s and %s", pattern, level, tell(before), tell(after))
				}
			}
		}
	}
}

// isStrong tells whether the class is L, or whether it counts as R.
func isStrong(class, dir int) bool {
	if dir == l {
		return class == l
	}
	return class == r || class == en || class == an
}

// Each class in the content of a pair, alone, and beside a class of the other direction.
func TestP9_2ClassesInContent(t *testing.T) {
	for _, class := range everyClass() {
		for _, code := range []rune{'a', 0x5D0, '[', ']', '1', -1, 0x110000, 0xD800} {
			for i, sos := range []int{l, r} {
				text, classes := []rune{'(', code, ')'}, []int{on, class, on}
				wantEven, wantOdd := on, on
				switch {
				case isStrong(class, l):
					wantEven, wantOdd = l, []int{l, r}[i]
				case isStrong(class, r):
					wantEven, wantOdd = []int{l, r}[i], r
				}
				if got := Resolve(text, classes, 4, sos); !slices.Equal(got, []int{wantEven, class, wantEven}) {
					t.Errorf("%X, %v at an even level after %d: %v", text, classes, sos, got)
				}
				if got := Resolve(text, classes, 3, sos); !slices.Equal(got, []int{wantOdd, class, wantOdd}) {
					t.Errorf("%X, %v at an odd level after %d: %v", text, classes, sos, got)
				}
			}
		}
	}
}

// Each class before a pair, near it and behind another strong one.
func TestP9_2ClassesBefore(t *testing.T) {
	for _, class := range everyClass() {
		for _, first := range []int{l, r} {
			for _, sos := range []int{l, r} {
				near := first
				switch {
				case isStrong(class, l):
					near = l
				case isStrong(class, r):
					near = r
				}
				text := []rune{'b', 'c', '!', '(', 'a', ')'}
				for dir, level := range map[int]int{r: 0, l: 1} {
					// Of the content dir, against the level: what stands before decides alone.
					classes := []int{first, class, on, on, dir, on}
					if got := Resolve(text, classes, level, sos); !slices.Equal(got, []int{first, class, on, near, dir, near}) {
						t.Errorf("%v at level %d: %v", classes, level, got)
					}
					near := near
					if !isStrong(class, l) && !isStrong(class, r) {
						near = sos
					}
					classes = []int{on, class, on, on, dir, on}
					if got := Resolve(text, classes, level, sos); !slices.Equal(got, []int{on, class, on, near, dir, near}) {
						t.Errorf("%v at level %d after %d: %v", classes, level, sos, got)
					}
				}
			}
		}
	}
}

// What the table has as NSM takes the class of a bracket before it, whatever its class in the list; nothing else does.
func TestP9_2EveryCodePoint(t *testing.T) {
	text, classes := []rune{'(', 0, 'a', ')', 0}, []int{on, 0, l, on, 0}
	for code := rune(-0x100); code <= 0x110100; code++ {
		text[1], text[4] = code, code
		want := 0
		if props.Of(code).Bidi == nsm {
			want = l
		}
		if got := Resolve(text, classes, 0, r); !slices.Equal(got, []int{l, want, l, l, want}) {
			t.Fatalf("%X: %v", code, got)
		}
	}
}

func TestP9_2ClassesOfMarks(t *testing.T) {
	for _, mark := range marks() {
		for _, class := range everyClass() {
			text := []rune{'(', mark, mark, 'a', mark, ')', mark, mark, '!', mark}
			classes := []int{on, class, class, r, class, on, class, class, on, class}
			if got := Resolve(text, classes, 1, l); !slices.Equal(got, []int{r, r, r, r, class, r, r, r, on, class}) {
				t.Errorf("%X, %v: %v", text, classes, got)
			}
			// The text may end with marks.
			if got := Resolve(text[:8], classes[:8], 1, l); !slices.Equal(got, []int{r, r, r, r, class, r, r, r}) {
				t.Errorf("%X, %v: %v", text[:8], classes[:8], got)
			}
		}
	}
	for _, code := range others() {
		for _, class := range everyClass() {
			text := []rune{'(', code, 0x301, 'a', ')', code, 0x301}
			classes := []int{on, class, on, l, on, class, on}
			if got := Resolve(text, classes, 0, l); !slices.Equal(got, []int{l, class, on, l, l, class, on}) {
				t.Errorf("%X, %v: %v", text, classes, got)
			}
		}
	}
}

func TestP9_2DifferentLengths(t *testing.T) {
	text, classes := spell("l(r)m(e)n[a]()")
	for i := range len(text) + 1 {
		for j := range len(classes) + 1 {
			for _, sos := range []int{l, r, on, 0, -1, low, high} {
				now := Resolve(text[:i], classes[:j], j, sos)
				if i != j && len(now) != 0 || i == j && len(now) != i {
					t.Errorf("%d and %d: %v", i, j, now)
				}
			}
		}
	}
	if len(Resolve(nil, []int{on}, 0, l)) != 0 || len(Resolve([]rune("("), nil, 1, r)) != 0 || len(Resolve(nil, nil, 0, l)) != 0 || len(Resolve([]rune{}, []int{}, 1, r)) != 0 {
		t.Error("there are classes of nothing")
	}
}

func TestP9_3AllShortTexts(t *testing.T) {
	check := func(text []rune, classes []int) { holds(t, text, classes) }
	patterns(14, "()", check)
	patterns(8, "()[]", check)
	patterns(6, "([{)]}", check)
	patterns(5, "()<>ocxyl", check)
}

func TestP9_4AllShortTexts(t *testing.T) {
	check := func(text []rune, classes []int) { holds(t, text, classes, 0, 1) }
	patterns(5, "()[]lrm.", check)
	patterns(4, "()<coxylreazmnLRE?.", check)
	patterns(8, "()lr", check)
	patterns(7, "()lLR", check)
	patterns(6, "()[]lr", check)
}

// long returns a pattern of up to n letters, more of them brackets than others, and more opening brackets than closing ones if they are to be many.
func long(pick func(n int) int, n int, many bool) string {
	kinds := []string{"([{<o", ")]}>c", "()[]", "lreamnLRE", "xyz?."}
	if many {
		kinds = append(kinds, "([{<o", "([{<o", "([{<o")
	}
	var pattern strings.Builder
	for range pick(n) {
		kind := kinds[pick(len(kinds))]
		pattern.WriteByte(kind[pick(len(kind))])
	}
	return pattern.String()
}

func TestP9_4LongTexts(t *testing.T) {
	pick := stream()
	found := 0
	for i := range 3000 {
		text, classes := spell(long(pick, 60, false))
		found += holds(t, text, classes, pick(126), pick(126))
		if i%10 == 0 {
			text, classes = spell(long(pick, 300, true))
			found += holds(t, text, classes, pick(126))
		}
	}
	if found < 10000 {
		t.Errorf("the texts have just %d pairs", found)
	}
}

// Code points of all kinds and values that are none, with classes of all kinds and values that are none.
func TestP9_4AnyCodePointsAndClasses(t *testing.T) {
	pick := stream()
	classesOf := append(everyClass(), l, r, en, an, nsm)
	even, odd := levels()
	levels := append(even, odd...)
	for range 6000 {
		text, classes := make([]rune, pick(30)), make([]int, 30)
		classes = classes[:len(text)]
		for i := range text {
			both := pairsOfTable()[pick(11)]
			text[i] = []rune{both[0], both[1], '(', ')', marks()[pick(len(marks()))], others()[pick(len(others()))]}[pick(6)]
			classes[i] = []int{on, on, classesOf[pick(len(classesOf))]}[pick(3)]
		}
		holds(t, text, classes, levels[pick(len(levels))], levels[pick(len(levels))])
	}
}

// Whatever sos is, just what P9.4 allows is changed.
func TestP9_4AnySos(t *testing.T) {
	pick := stream()
	for range 500 {
		text, classes := spell(long(pick, 40, false))
		pairs := Pairs(text, classes)
		for _, sos := range everyClass() {
			kept(t, text, classes, pairs, Resolve(text, classes, pick(3), sos))
		}
	}
}

func TestP9_5WithoutStrongClasses(t *testing.T) {
	unchanged := func(text []rune, classes []int) {
		for _, level := range []int{0, 1} {
			for _, sos := range []int{l, r} {
				if got := Resolve(text, classes, level, sos); !slices.Equal(got, classes) {
					t.Fatalf("%X, %v became %v", text, classes, got)
				}
			}
		}
	}
	patterns(6, "()[].mn", unchanged)
	for _, class := range everyClass() {
		if isStrong(class, l) || isStrong(class, r) {
			continue
		}
		unchanged([]rune{'a', '(', 0x5D0, 0x301, ')', 0x301, 'a'}, []int{class, on, class, class, on, class, class})
		unchanged([]rune{'a', '(', 0x5D0, '[', ']', 0x301, ')', 0x301, 'a'}, []int{class, on, class, on, on, class, on, class, class})
		unchanged([]rune{'(', 'a', ')'}, []int{class, class, class})
	}
}

// R8 lets a list have as many elements.
const most = 1 << 16

func TestR8LongTexts(t *testing.T) {
	for _, c := range []struct {
		again       string
		pairs, even int // even: how many L there are at level 0 after sos R
	}{
		{"(l)", most / 3, most - 1}, {"()", most / 2, 0}, {"(r)", most / 3, 0}, {"(", 0, 0}, {")", 0, 0}, {".", 0, 0}, {"m", 0, 0}, {"l", 0, most}, {"([)]", most / 4, 0}, {"(l)m", most / 4, most}, {"(.(l).)", 2 * (most / 7), 5 * (most / 7)},
	} {
		pattern := strings.Repeat(c.again, most/len(c.again))
		text, classes := spell(pattern)
		pairs, now := Pairs(text, classes), Resolve(text, classes, 0, r)
		count := 0
		for _, class := range now {
			if class == l {
				count++
			}
		}
		if len(pairs) != c.pairs || len(now) != len(text) || count != c.even {
			t.Errorf("%s, again and again: %d pairs, %d of L", c.again, len(pairs), count)
		}
	}
}

func TestR8LongContent(t *testing.T) {
	closing := strings.Repeat(")", 63)
	text, classes := spell(full() + strings.Repeat(".", most-127) + "r" + closing)
	if got := tell(Resolve(text, classes, 0, l)); got != strings.Repeat("L", 63)+strings.Repeat(".", most-127)+"R"+strings.Repeat("L", 63) {
		t.Error("a long content")
	}
	text, classes = spell("r" + strings.Repeat(".", most-4) + "(r)")
	if got := tell(Resolve(text, classes, 0, l)); got != "R"+strings.Repeat(".", most-4)+"RRR" {
		t.Error("a long way back")
	}
	text, classes = spell("(l)" + strings.Repeat("m", most-3))
	if got := tell(Resolve(text, classes, 1, r)); got != "RL"+strings.Repeat("R", most-2) {
		t.Error("many marks")
	}
}

// spoil writes to all memory of the list, also to the room behind it.
func spoil[T any](list []T, with T) {
	for i := range list[:cap(list)] {
		list[:cap(list)][i] = with
	}
}

func TestR5(t *testing.T) {
	for pattern, wants := range handMarked() {
		spelled, of := spell(pattern)
		// Behind the lists is room that would make another pair, with marks, which must be left alone and unread.
		codes := append(slices.Clone(spelled), 0x301, ')', ']', 0x301)
		all := append(slices.Clone(of), l, on, on, on)
		text, classes := codes[:len(spelled)], all[:len(of)]
		codesBefore, allBefore := slices.Clone(codes), slices.Clone(all)
		pairs, again := Pairs(text, classes), Pairs(text, classes)
		now, then := Resolve(text, classes, 1, r), Resolve(text, classes, 1, r)
		if !slices.Equal(codes, codesBefore) || !slices.Equal(all, allBefore) {
			t.Fatalf("%s was written to: %X, %v", pattern, codes, all)
		}
		spoil(pairs, [2]int{-7, -7})
		spoil(now, -7)
		if !slices.Equal(codes, codesBefore) || !slices.Equal(all, allBefore) {
			t.Fatalf("%s shares memory with its results: %X, %v", pattern, codes, all)
		}
		want := pairsByChapter(spelled, of)
		spoil(codes, -7)
		spoil(all, -7)
		if !slices.Equal(again, want) || tell(then) != wants[3] {
			t.Fatalf("%s: %v and %s, with the rest written to", pattern, again, tell(then))
		}
	}
}

func TestExamples(t *testing.T) {
	text, classes := []rune("a(b)c"), []int{l, on, l, on, l}
	if got := Pairs(text, classes); !slices.Equal(got, [][2]int{{1, 3}}) {
		t.Error(got)
	}
	if got := Resolve(text, classes, 0, l); !slices.Equal(got, []int{l, l, l, l, l}) {
		t.Error(got)
	}
	if got := Pairs([]rune("(]"), []int{on, on}); len(got) != 0 {
		t.Error(got)
	}
	if got := Pairs([]rune("([)]"), []int{on, on, on, on}); !slices.Equal(got, [][2]int{{0, 2}}) {
		t.Error(got)
	}
	if got := Resolve([]rune("x(a)"), []int{r, on, l, on}, 1, r); !slices.Equal(got, []int{r, r, l, r}) {
		t.Error(got)
	}
	if got := Pairs([]rune{0x2329, 0x3009}, []int{api.BidiON, api.BidiON}); !slices.Equal(got, [][2]int{{0, 1}}) {
		t.Error(got)
	}
}
