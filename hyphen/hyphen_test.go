package hyphen

import (
	"math"
	"slices"
	"strings"
	"testing"

	"typecase/api"
)

// numbers returns the numbers that are written as digits.
func numbers(text string) []int {
	var list []int
	for _, digit := range text {
		list = append(list, int(digit-'0'))
	}
	return list
}

func TestP20_5ParseByHand(t *testing.T) {
	long := strings.Repeat("x", 16)
	zeros := strings.Repeat("0", 16)
	for _, c := range []struct{ s, letters, digits string }{
		{"a1", "a", "01"}, {"1a", "a", "10"}, {"9a9", "a", "99"}, {"a1b", "ab", "010"}, {"1a2b3", "ab", "123"}, {"ab9", "ab", "009"}, {"aa2a", "aaa", "0020"},
		{".a1", ".a", "001"}, {".1a", ".a", "010"}, {"1.a", ".a", "100"}, {"1.2a3", ".a", "123"}, {"a1.", "a.", "010"}, {"a.1", "a.", "001"}, {"1a.", "a.", "100"}, {"1a2.3", "a.", "123"}, {"1.2a3.4", ".a.", "1234"}, {".a.5", ".a.", "0005"}, {".a5.", ".a.", "0050"},
		{"0a1", "a", "01"}, {"1a0", "a", "10"}, {"0a0b1", "ab", "001"}, {"0.0a0.6", ".a.", "0006"}, {"a0b2", "ab", "002"},
		{long + "1", long, zeros + "1"}, {"1" + long, long, "1" + zeros}, {".1" + long + ".", "." + long + ".", "01" + zeros + "0"}, {"1." + long, "." + long, "10" + zeros}, {long + ".1", long + ".", zeros + "01"},
		{"9a8b7c6d5e4f3g2h1i0j9k8l7m6n5o4p3", "abcdefghijklmnop", "98765432109876543"},
		{"é1", "é", "01"}, {"語1", "語", "01"}, {"\U0001F6001", "\U0001F600", "01"}, {"1é2語3\U0001F6004z5", "é語\U0001F600z", "12345"}, {"A1", "A", "01"}, {"aA1", "aA", "001"}, {"Z1É", "ZÉ", "010"},
		{"٣1", "٣", "01"}, {"１1２", "１２", "010"}, {"²1", "²", "01"}, {"۱9", "۱", "09"}, {"\x001", "\x00", "01"}, {" 1", " ", "01"}, {"\n1\r", "\n\r", "010"}, {"-1", "-", "01"}, {"/1:", "/:", "010"}, {"\u00ad1\u0301", "\u00ad\u0301", "010"}, {"。1", "。", "01"},
		{"\ufffd1", "\ufffd", "01"}, {"\U0010ffff1", "\U0010ffff", "01"}, {"\ud7ff1\ue000", "\ud7ff\ue000", "010"}, {"\u007f1\u0080\u07ff\u0800\uffff\U00010000", "\u007f\u0080\u07ff\u0800\uffff\U00010000", "0100000"},
	} {
		letters, digits, ok := Parse(c.s)
		if !ok || string(letters) != c.letters || !slices.Equal(digits, numbers(c.digits)) {
			t.Errorf("Parse(%q) = %q, %v, %t", c.s, letters, digits, ok)
		}
		parses(t, c.s)
	}
}

func TestP20_5ParseNoPattern(t *testing.T) {
	long := strings.Repeat("x", 17)
	for _, s := range []string{
		"", "1", "9", "0", "a", "ab", "A", "é", long[:16], "." + long[:16] + ".",
		".", "..", "...", ".1", "1.", "1.1", ".1.", "1.1.", "1.1.1", "..1", "1..", "1.2.3.4",
		"a0", "0a", "0a0", "0a0b0", "0.0a0.0", ".a.", ".a", "a.", ".0a0.",
		"12", "a12", "12a", "a12b", "a10", "a01", "a00b1", "00a1", "01a", "a1b1c11", "12.a", ".12a", "a12.", "a.12", "a.00", "123a", "1a123",
		"..a1", "a1..", ".1.a", "a.1.", "1..a", "a..1", "..a..1", ".a..1", "..a.1", "a.b1", "1a.b", "a1.b", "a.1b", ".a.b1", ".a1.b.", "ab.c1", "a.bc1", "a1.1b", "a1.a.", ".a.a1",
		long + "1", "1" + long, "." + long + "1", "1" + long + ".", ".1" + long + ".", strings.Repeat("x1", 17), strings.Repeat("é", 17) + "1",
		"\xff1", "1\xff", "a1\xff", "\xffa1", "a\xff1", "\x801", "a1\x80", "\xc31", "a1\xc3", "é1\xa9", "\xe2\x821", "a1\xe2\x82", "a1\xe2", "\xf0\x9f\x981", "a1\xf0\x9f\x98", "a1\xf0\x9f", "a1\xf0",
		"\xc0\x801", "\xc1\xbf1", "\xc0\xae1a", "\xe0\x80\x801", "\xe0\x9f\xbf1", "\xf0\x80\x80\x801", "\xf0\x8f\xbf\xbf1", "\xed\xa0\x801", "\xed\xbf\xbf1", "a1\xed\xa0\xbd\xed\xb8\x80", "\xf4\x90\x80\x801", "\xf8\x88\x80\x80\x801", "\xfe1", "a1\xc3\x28", "a1\xfc\x80\x80\x80\x80\x80",
	} {
		if letters, digits, ok := Parse(s); ok || len(letters) != 0 || len(digits) != 0 {
			t.Errorf("Parse(%q) = %q, %v, %t", s, letters, digits, ok)
		}
		parses(t, s)
	}
}

// All short texts, and so all short patterns: P20.7, too.
func TestP20_5ParseShort(t *testing.T) {
	check := func(list []string) { parses(t, strings.Join(list, "")) }
	lists(7, strings.Split("a b . 0 1", " "), check)
	lists(6, strings.Split("é A . 0 9 2", " "), check)
	lists(5, []string{"\xc3", "\xa9", "a", ".", "1", "0"}, check)
	lists(4, []string{"\xed", "\xa0", "\x80", "\xe0", "\xf0", "\xf4", "\x90", "\xbf", "1", "a"}, check)
	lists(2, []string{"\x00", "/", "0", "1", "2", "3", "4", "5", "6", "7", "8", "9", ":", ".", "-", ",", "a", "\u0660", "\uff10"}, check)
	for b := range 256 {
		for _, s := range []string{"1", "a1", "1a", ".1a"} {
			parses(t, string([]byte{byte(b)})+s)
			parses(t, s+string([]byte{byte(b)}))
		}
	}
}

// Patterns of up to 20 letters, with and without dots, and texts with a sign too much or too little.
func TestP20_5ParseLonger(t *testing.T) {
	next := stream()
	among := strings.Split("a b . 0 1 9 é 語 \xff", " ")
	for range 60000 {
		s := somePattern(next, 20, "abAé語\U0001F600٣")
		parses(t, s)
		at := next(len(s) + 1)
		parses(t, s[:at]+among[next(len(among))]+s[at:])
		parses(t, s[:at]+s[min(at+1, len(s)):])
		parses(t, strings.Join(some(next, next(24), among), ""))
	}
	for n := range 40 {
		for _, edges := range [][2]string{{"", "1"}, {"1", ""}, {".", "1"}, {"", ".1"}, {"1.", "."}, {".", "1."}, {".", "."}, {"", ""}, {"..", "1"}, {"", "1.."}} {
			parses(t, edges[0]+strings.Repeat("a", n)+edges[1])
			parses(t, edges[0]+strings.Repeat("語", n)+edges[1])
			parses(t, edges[0]+strings.Repeat("2é", n)+edges[1])
		}
	}
}

func TestP20_5PrintByHand(t *testing.T) {
	long := strings.Repeat("x", 16)
	zeros := strings.Repeat("0", 16)
	for _, c := range []struct{ letters, digits, want string }{
		{"b.", "100", "1b."}, {".ab", "0020", ".a2b"}, {"a", "01", "a1"}, {"a", "10", "1a"}, {"a", "99", "9a9"}, {"ab", "123", "1a2b3"}, {".a.", "1234", "1.2a3.4"}, {".a.", "0005", ".a.5"}, {"A", "01", "A1"}, {"é語\U0001F600", "1234", "1é2語3\U0001F6004"}, {"\x00", "01", "\x001"}, {"٣", "01", "٣1"}, {"\ufffd", "70", "7\ufffd"},
		{long, zeros + "1", long + "1"}, {"." + long + ".", zeros + "030", "." + long + "3."}, {"-", "01", "-1"}, {"-", "10", "1-"},
		{"", "", ""}, {"", "0", ""}, {"", "1", ""}, {"", "01", ""}, {"a", "", ""}, {"a", "1", ""}, {"a", "100", ""}, {"a", "011", ""}, {"ab", "01", ""}, {"ab", "0110", ""},
		{"a", "00", ""}, {".a.", "0000", ""}, {"abc", "0000", ""}, {".", "01", ""}, {".", "10", ""}, {"..", "010", ""}, {"...", "0101", ""},
		{"1", "01", ""}, {"a1", "010", ""}, {"1a", "010", ""}, {"0", "01", ""}, {"a0b", "0100", ""}, {"9a", "001", ""}, {"a1b", "0000", ""}, {"a1", "000", ""}, {"1a", "000", ""}, {"5", "00", ""},
		{"..a", "0001", ""}, {"a..", "0001", ""}, {"a.b", "0100", ""}, {".a.b", "01000", ""}, {"a.b.", "01000", ""}, {long + "x", zeros + "01", ""}, {"." + long + "x.", zeros + "0001", ""}, {"." + long + "x", zeros + "001", ""},
	} {
		if got := Print([]rune(c.letters), numbers(c.digits)); got != c.want {
			t.Errorf("Print(%q, %s) = %q", c.letters, c.digits, got)
		}
		prints(t, []rune(c.letters), numbers(c.digits))
	}
}

// Numbers that are no digits.
func TestP20_5PrintDigits(t *testing.T) {
	for _, digit := range []int{math.MinInt, math.MinInt + 1, math.MinInt64 / 10, math.MinInt32, -256, -250, -48, -47, -39, -11, -10, -9, -2, -1, 10, 11, 12, 19, 48, 49, 57, 99, 100, 255, 256, 257, 265, 1 << 16, 1<<16 + 1, math.MaxInt32, 1 << 32, 1<<32 + 1, 1<<32 + 9, math.MaxInt64 - 8, math.MaxInt} {
		for _, digits := range [][]int{{digit, 1}, {1, digit}, {digit, 0}, {0, digit}, {digit, digit}} {
			if got := Print([]rune{'a'}, digits); got != "" {
				t.Errorf("Print(a, %v) = %q", digits, got)
			}
			prints(t, []rune{'a'}, digits)
		}
	}
	for digit := -300; digit <= 300; digit++ {
		prints(t, []rune{'a', 'b'}, []int{0, digit, 0})
		prints(t, []rune{'-', 'b'}, []int{0, digit, 2})
		prints(t, []rune{'-', '.'}, []int{digit, 0, 2})
		prints(t, []rune{'.', 'b', '.'}, []int{1, 0, 2, digit})
	}
}

// Letters that are no code points, and all others of a few planes.
func TestP20_5PrintLetters(t *testing.T) {
	for _, r := range append(strange(), 0xDABC, 0x10FFFF+'a') {
		for _, letters := range [][]rune{{r}, {r, 'a'}, {'a', r}, {'.', r, '.'}, {'.', r}, {r, r}} {
			digits := make([]int, len(letters)+1)
			digits[1] = 3
			if got := Print(letters, digits); got != "" {
				t.Errorf("Print(%X, %v) = %q", letters, digits, got)
			}
		}
	}
	for r := rune(-300); r < 0x30000; r++ {
		prints(t, []rune{r, 'a'}, []int{0, 1, 0})
		prints(t, []rune{r}, []int{0, 1})
	}
	for r := rune(0x10FF00); r < 0x110200; r++ {
		prints(t, []rune{'.', r}, []int{0, 1, 0})
	}
}

// All short lists, whose numbers of elements go together or don't.
func TestP20_5PrintShort(t *testing.T) {
	lists(4, []rune{'a', '.', '1', -1}, func(letters []rune) {
		lists(5, []int{0, 1, -1}, func(digits []int) { prints(t, letters, digits) })
	})
	lists(3, []rune{'a', '.', '0', 0xD800, '-'}, func(letters []rune) {
		lists(4, []int{0, 9, 10, 2, -2}, func(digits []int) { prints(t, letters, digits) })
	})
}

func TestP20_5PrintLonger(t *testing.T) {
	next := stream()
	for range 40000 {
		n := next(20)
		letters := some(next, n, []rune("abé語"))
		digits := some(next, n+1, []int{0, 0, 1, 2, 9})
		if n > 0 && next(3) == 0 {
			letters[0] = '.'
		}
		if n > 0 && next(3) == 0 {
			letters[n-1] = '.'
		}
		prints(t, letters, digits)
		if n > 0 {
			letters[next(n)] = []rune{'.', '5', -1, 0xDFFF, 0x110000, '-'}[next(6)]
			prints(t, letters, digits)
		}
		digits[next(n+1)] = next(30) - 10
		prints(t, letters, digits)
		prints(t, letters, digits[:next(n+1)])
	}
	for n := range 40 {
		for _, dots := range [][2]string{{"", ""}, {".", ""}, {"", "."}, {".", "."}} {
			letters := []rune(dots[0] + strings.Repeat("é", n) + dots[1])
			digits := make([]int, len(letters)+1)
			digits[len(letters)] = 7
			prints(t, letters, digits)
		}
	}
}

func TestP20_7BothWays(t *testing.T) {
	next := stream()
	for range 30000 {
		s := somePattern(next, 16, "abcAZéß語\U0001F600\x00 -٣")
		letters, digits, ok := Parse(s)
		if !ok || strings.ContainsAny(Print(letters, digits), "0") {
			t.Fatalf("Parse(%q) = %q, %v, %t", s, letters, digits, ok)
		}
		again, numbers, ok := Parse(Print(letters, digits))
		if !ok || !slices.Equal(again, letters) || !slices.Equal(numbers, digits) {
			t.Fatalf("%q: %q, %v, %t, not %q, %v", s, again, numbers, ok, letters, digits)
		}
	}
}

// differing returns n patterns of different letters.
func differing(n int) []string {
	patterns := make([]string, n)
	for i := range patterns {
		patterns[i] = "1" + string(rune('a'+i%26)) + string(rune('a'+i/26%26)) + "."
	}
	return patterns
}

func TestP20_1New(t *testing.T) {
	for _, c := range []struct {
		patterns string // with spaces between
		at       int
		e        api.Errno
	}{
		{"", 0, api.OK}, {"1b", 0, api.OK}, {"1b o2b", 0, api.OK}, {"1b x", 1, api.ErrForm}, {"x 1b", 0, api.ErrForm}, {"x x", 0, api.ErrForm}, {"1b 1b", 1, api.ErrTwice}, {"1b b3 x", 1, api.ErrTwice}, {"1b x b3", 1, api.ErrForm}, {"1b 1c b3 x", 2, api.ErrTwice}, {"1b 1c x b3", 2, api.ErrForm},
		{"1b b1", 1, api.ErrTwice}, {"1b 2b", 1, api.ErrTwice}, {"1b 1b0", 1, api.ErrTwice}, {"0b1 b1", 1, api.ErrTwice}, {"b1 .b1", 0, api.OK}, {"b1 b1.", 0, api.OK}, {"b1 .b1 b1. .b1.", 0, api.OK}, {".b1 1.b", 1, api.ErrTwice}, {"b.1 b1.", 1, api.ErrTwice}, {".b1. b1. .b1 .1b.", 3, api.ErrTwice},
		{"a1 A1", 0, api.OK}, {"a1b A1b a1B A1B", 0, api.OK}, {"A1 1A", 1, api.ErrTwice}, {"é1 É1", 0, api.OK}, {"é1 1é", 1, api.ErrTwice}, {"e1\u0301 é1", 0, api.OK}, {"٣1 3a ３1", 0, api.OK},
		{"a1 ab1 abc1 b1 bc1 c1", 0, api.OK}, {"abc1 ab1 a1", 0, api.OK}, {"abc1 ab1 a1b", 2, api.ErrTwice}, {"a1 b1 c1 d1 1a", 4, api.ErrTwice}, {"a1 b1 c1 d1 1d", 4, api.ErrTwice}, {"a1 b1 c1 d1 0", 4, api.ErrForm}, {"a1 b1 1b a a1", 2, api.ErrTwice}, {"a1 b1 a0 1b", 2, api.ErrForm},
		{"a1 \xff1", 1, api.ErrForm}, {"a1 . .", 1, api.ErrForm}, {"a1 a", 1, api.ErrForm}, {"a1 a0", 1, api.ErrForm}, {"a1 a12", 1, api.ErrForm}, {"1aaaaaaaaaaaaaaaa 1aaaaaaaaaaaaaaaaa", 1, api.ErrForm},
	} {
		patterns := strings.Fields(c.patterns)
		x, at, e := New(patterns)
		if at != c.at || e != c.e || (x != nil) != (e == api.OK) {
			t.Errorf("New(%q) = %v, %d, %d", patterns, x, at, e)
		}
		if x.Len() != len(patterns) && e == api.OK || x.Len() != 0 && e != api.OK {
			t.Errorf("New(%q) has %d patterns", patterns, x.Len())
		}
		if i, e := made(patterns); i != c.at || e != c.e {
			t.Errorf("%q: the chapter says %d, %d", patterns, i, e)
		}
	}
	for _, patterns := range [][]string{nil, {}} {
		if x, i, e := New(patterns); x == nil || x.Len() != 0 || i != 0 || e != api.OK || len(x.Points([]rune("abobobo"))) != 0 {
			t.Errorf("New(%v) = %v, %d, %d", patterns, x, i, e)
		}
	}
	for _, patterns := range [][]string{{""}, {"1b", ""}, {"", "1b"}, {"", ""}} {
		if x, i, e := New(patterns); x != nil || i != slices.Index(patterns, "") || e != api.ErrForm {
			t.Errorf("New(%q) = %v, %d, %d", patterns, x, i, e)
		}
	}
}

func TestP20_1Many(t *testing.T) {
	for _, n := range []int{510, 511, 512} {
		x := trie(t, differing(n)...)
		if got := x.Points([]rune("xxab")); len(got) != 0 {
			t.Errorf("%d patterns: %v", n, got)
		}
		last := []rune("xx" + strings.Trim(differing(n)[n-1], "1.") + "x")
		if got := x.Points(last); len(got) != 0 {
			t.Errorf("%d patterns: %v", n, got)
		}
	}
	x := trie(t, append(differing(511), "zz1y")...)
	if got := x.Points([]rune("xzzyxx")); !slices.Equal(got, []int{3}) {
		t.Errorf("the last of 512 patterns: %v", got)
	}
	many := differing(600)
	for _, n := range []int{513, 514, 600} {
		for _, change := range []struct {
			at      int
			pattern string
		}{{0, many[0]}, {0, "x"}, {1, "x"}, {1, many[0]}, {512, "x"}, {512, many[0]}, {5, ""}} {
			patterns := slices.Clone(many[:n])
			patterns[change.at] = change.pattern
			if x, i, e := New(patterns); x != nil || i != 0 || e != api.ErrMany {
				t.Errorf("%d patterns, with %q at %d: %v, %d, %d", n, change.pattern, change.at, x, i, e)
			}
		}
	}
	for at := range 512 {
		for pattern, want := range map[string]api.Errno{"x": api.ErrForm, many[0]: api.ErrTwice} {
			if at == 0 && want == api.ErrTwice {
				continue
			}
			patterns := slices.Clone(many[:512])
			patterns[at] = pattern
			patterns[511] = pattern
			if x, i, e := New(patterns); x != nil || i != at || e != want {
				t.Errorf("%q at %d: %v, %d, %d", pattern, at, x, i, e)
			}
		}
	}
}

// All short lists of a few patterns, and random ones.
func TestP20_1Lists(t *testing.T) {
	check := func(patterns []string) {
		x, i, e := New(patterns)
		wantAt, want := made(patterns)
		if i != wantAt || e != want || (x == nil) != (want != api.OK) || want == api.OK && x.Len() != len(patterns) {
			t.Fatalf("New(%q) = %v, %d, %d, not %d, %d", patterns, x, i, e, wantAt, want)
		}
	}
	lists(4, []string{"a1", "1a", "a", ".a1", "a1.", "A1", "a1b", "a2b", "", "1b", "b0"}, check)
	next := stream()
	for range 20000 {
		patterns := make([]string, next(12))
		for i := range patterns {
			patterns[i] = somePattern(next, 3, "abA")
			if next(16) == 0 {
				patterns[i] = strings.Map(func(r rune) rune { return []rune{r, '0', '.'}[next(3)] }, patterns[i])
			}
		}
		check(patterns)
	}
}

// wordRow is patterns, with spaces between, a word, and its points.
type wordRow struct {
	patterns, word string
	points         []int
}

func checkWords(t *testing.T, rows []wordRow) {
	t.Helper()
	for _, row := range rows {
		patterns := strings.Fields(row.patterns)
		for range 2 {
			x := trie(t, patterns...)
			if got := x.Points([]rune(row.word)); !slices.Equal(got, row.points) {
				t.Errorf("%q: Points(%q) = %v, not %v", patterns, row.word, got, row.points)
			}
			holds(t, x, patterns, []rune(row.word))
			slices.Reverse(patterns)
		}
	}
}

func TestP20_2ByHand(t *testing.T) {
	checkWords(t, []wordRow{
		{"", "abobobo", nil}, {"1b", "abobobo", []int{3}}, {"1b o2b", "abobobo", nil}, {"1b o2b bo3b", "abobobo", []int{3}}, {"1b o2b bo3b abo4b", "abobobo", nil}, {"b1", "abobobo", []int{2, 4}}, {"1o", "abobobo", []int{2, 4}}, {"9b", "abobobo", []int{3}}, {"8b", "abobobo", nil},
		// Words of few letters.
		{"1a", "", nil}, {"1a", "a", nil}, {"1a", "aa", nil}, {"1a", "aaa", nil}, {"1a", "aaaa", nil}, {"1a", "aaaaa", []int{2}}, {"1a", "aaaaaa", []int{2, 3}}, {"a1", "aaaaa", []int{2}}, {"a1", "aaaa", nil},
		// Dots.
		{".a1", "aaaaa", nil}, {".aa1", "aaaaa", []int{2}}, {".aa1", "aaaaaaaa", []int{2}}, {".aaa1", "aaaaaa", []int{3}}, {"1aaa.", "aaaaa", []int{2}}, {"1aaa.", "aaaaaaaa", []int{5}}, {"a1aaa.", "aaaaaaaa", []int{5}}, {"1aa.", "aaaaaaaa", nil}, {".aa1aaa.", "aaaaa", []int{2}}, {".aa1aaa.", "aaaaaa", nil}, {".aa1aa.", "aaaaa", nil},
		{"1.b", "bxxxxx", nil}, {"b.1", "xxxxxb", nil}, {"1.2b3.4", "b", nil}, {".1b", "bxxxxx", nil}, {"b1.", "xxxxxb", nil}, {"5.b", "xx.bxx", []int{2}}, {"b.1", "xb.xxx", []int{3}}, {".b1", "x.bxxx", []int{3}}, {".1b", "x.bxxx", []int{2}}, {"b1.", "xxb.xxx", []int{3}}, {".b1.", "x.b.xxx", []int{3}}, {".b1b.", "x.bb.xx", []int{3}}, {"1b", ".....b..", []int{5}}, {".b1b", "bbbbbb", nil}, {".b1b", "b.bbbb", []int{3}},
		// Capital letters, and what lies beside them.
		{"1b", "ABOBOBO", []int{3}}, {"1b", "aBoBoBo", []int{3}}, {"1B", "abobobo", nil}, {"1B", "ABOBOBO", nil}, {"b1 B2", "BBBBBB", []int{2, 3}}, {"1a", "xxAxx", []int{2}}, {"1z", "xxZxx", []int{2}}, {"1`", "xx@xx", nil}, {"1@", "xx@xx", []int{2}}, {"1{", "xx[xx", nil}, {"1[", "xx[xx", []int{2}}, {"1`", "xx`xx", []int{2}}, {"1{", "xx{xx", []int{2}}, {"1é", "xxéxx", []int{2}}, {"1é", "xxÉxx", nil}, {"1É", "xxÉxx", []int{2}}, {"1É", "xxéxx", nil}, {"1k", "xx\u212Axx", nil}, {"1i", "xx\u0130xx", nil}, {"1а", "xxАxx", nil}, {"1ａ", "xxＡxx", nil},
		// Patterns that lie over, in and beside each other.
		{"ab1", "xxabcxx", []int{4}}, {"ab1 abc2", "xxabcxx", []int{4}}, {"ab1 ab2c", "xxabcxx", nil}, {"1bc", "xxabcxx", []int{3}}, {"1bc a2bc", "xxabcxx", nil}, {"1c b1c ab1c", "xxabcxx", []int{4}}, {"1c b2c ab3c", "xxabcxx", []int{4}}, {"3c b2c ab1c", "xxabcxx", []int{4}}, {"2c b3c ab4c", "xxabcxx", nil}, {"a1 1b", "xxabcxx", []int{3}}, {"a1 2b", "xxabcxx", nil}, {"a2 1b", "xxabcxx", nil}, {"a2 3b", "xxabcxx", []int{3}}, {"xab1 abc1 bcx1", "xxabcxx", []int{4}},
		{"a1a2a", "aaaaaaa", nil}, {"a2a1a", "aaaaaaa", nil}, {"a3a2a", "aaaaaaa", []int{2, 3, 4}}, {"a2a3a", "aaaaaaa", []int{2, 3, 4}}, {"aa1 1aaa", "aaaaaaa", []int{2, 3, 4}}, {"aa2 1aaa", "aaaaaaa", nil}, {".aa2 1aa", "aaaaaaa", []int{3, 4}}, {"ab1ab", "abababab", []int{2, 4}}, {"ba1ba", "abababab", []int{3, 5}}, {"abab1 1baba", "abababab", []int{3, 4}},
		{"a1b abc2d", "xabcdxxx", []int{2}}, {"a1bc abc1d abcd2e", "xabcxxxx", []int{2}}, {"ab1cd bc3", "xabcxxxx", []int{4}}, {"abcdefg1", "abcdefg", nil}, {"abcde1fgh", "abcdefgh", []int{5}}, {"abcde1fghi", "abcdefgh", nil}, {"abcde1fghi 1d", "abcdefgh", []int{3}}, {"1xxxxxxxxxxxxxxxx", "xxxxx", nil},
		// Digits at the ends of a pattern, and all digits.
		{"1abc", "xxabcxx", []int{2}}, {"abc1", "xabcxxx", []int{4}}, {"1a2b3c4", "xxabcxxxx", []int{2, 4}}, {"2a1b4c3", "xxabcxxxx", []int{3, 5}}, {"9a8b7c6", "xxabcxxxx", []int{2, 4}}, {"0a5b0", "xxabxxx", []int{3}}, {"1a 3b 5c 7d 9e", "xxabcdexx", []int{2, 3, 4, 5, 6}}, {"2a 4b 6c 8d", "xxabcdexx", nil},
		// Letters that are no letters elsewhere.
		{"1\u0301", "xx\u0301xx", []int{2}}, {"1\u00ad", "xx\u00adxx", []int{2}}, {"1٣", "xx٣xx", []int{2}}, {"1-", "xx-xx", []int{2}}, {"1\U0001F600", "xx\U0001F600xx", []int{2}}, {"1\x00", "xx\x00xx", []int{2}}, {"1\ufffd", "xx\ufffdxx", []int{2}}, {"1a", "11a11", []int{2}},
	})
}

func TestP20_2Lengths(t *testing.T) {
	patterns := []string{"1a"}
	x := trie(t, patterns...)
	for n := range 200 {
		var want []int
		for i := 2; i <= n-3 && n <= 64; i++ {
			want = append(want, i)
		}
		if got := x.Points(slices.Repeat([]rune{'a'}, n)); !slices.Equal(got, want) {
			t.Errorf("%d letters: %v", n, got)
		}
	}
	for _, n := range []int{62, 63, 64, 65, 66, 128} {
		next := stream()
		patterns := []string{"a1b", "b2a", ".bb1", "1ab.", "abba3", "1aaa", "aaaaaaaaaa1aaaaaa", ".1aba", "bba4."}
		x := trie(t, patterns...)
		for range 80 {
			word := some(next, n, []rune("ab"))
			holds(t, x, patterns, word)
			if n <= 64 && len(x.Points(word)) == 0 || n > 64 && len(x.Points(word)) != 0 {
				t.Fatalf("%q: %v", string(word), x.Points(word))
			}
		}
	}
}

// Every short pattern with every short word.
func TestP20_2Short(t *testing.T) {
	var words [][]rune
	lists(6, []rune("ab."), func(word []rune) { words = append(words, word) })
	lists(4, strings.Split("a b . 1", " "), func(list []string) {
		pattern := strings.Join(list, "")
		if !isPattern(pattern) {
			return
		}
		x := trie(t, pattern)
		for _, word := range words {
			if got, want := x.Points(word), points([]string{pattern}, word); !slices.Equal(got, want) {
				t.Fatalf("%q: Points(%q) = %v, not %v", pattern, string(word), got, want)
			}
		}
	})
}

// Random patterns of few letters, and random words.
func TestP20_2Random(t *testing.T) {
	next := stream()
	found := 0
	for range 1500 {
		patterns := somePatterns(next, next(12), 4, "abB")
		x := trie(t, patterns...)
		for range 12 {
			word := some(next, next(20), []rune("aabbAB."))
			holds(t, x, patterns, word)
			found += len(x.Points(word))
		}
	}
	for range 25 {
		patterns := somePatterns(next, 60, 16, "abé")
		for range 8 {
			long := somePattern(next, 16, "ab")
			if i, e := made(append(patterns, long)); i == 0 && e == api.OK {
				patterns = append(patterns, long)
			}
		}
		x := trie(t, patterns...)
		for range 12 {
			word := some(next, next(70), []rune("abé"))
			holds(t, x, patterns, word)
			for _, pattern := range patterns[len(patterns)-8:] {
				holds(t, x, patterns, slices.Concat(word[:len(word)/3], lettersOf(strings.Trim(pattern, ".")), word[len(word)/3:]))
			}
			found += len(x.Points(word))
		}
	}
	if found < 5000 {
		t.Errorf("only %d points were found", found)
	}
}

// The order of the patterns doesn't matter.
func TestP20_2Orders(t *testing.T) {
	next := stream()
	for range 300 {
		patterns := somePatterns(next, 9, 3, "ab")
		turned := slices.Clone(patterns)
		for i := range turned {
			k := i + next(len(turned)-i)
			turned[i], turned[k] = turned[k], turned[i]
		}
		x, y := trie(t, patterns...), trie(t, turned...)
		for range 20 {
			word := some(next, next(16), []rune("ab"))
			if !slices.Equal(x.Points(word), y.Points(word)) {
				t.Fatalf("%q and %q: %q", patterns, turned, string(word))
			}
		}
	}
}

// textRow is patterns, with spaces between, a text, and what In finds.
type textRow struct {
	patterns, text string
	points         []int
}

func TestP20_3ByHand(t *testing.T) {
	long := strings.Repeat("a", 64)
	for _, row := range []textRow{
		{"1a", "", nil}, {"", "abobobo", nil},
		// Soft hyphens.
		{"", "\u00ad", nil}, {"", "a\u00ad", nil}, {"", "\u00ada", []int{1}}, {"", "a\u00adb", []int{2}}, {"", "a\u00adb\u00ad", []int{2}}, {"", "\u00ad\u00ad\u00ad", []int{1, 2}}, {"", "a\u00ad\u00ad\u00adb", []int{2, 3, 4}}, {"", "\u00ada\u00ad \u00ad\u00ad1\u00ad", []int{1, 3, 5, 6}},
		{"", "\u00ad\u0301", []int{1}}, {"", "a\u00ad\u0301b", []int{2}}, {"", "a\u0301\u00adb", []int{3}}, {"", "a\u00ad\u200db", []int{2}}, {"", "a\u00ad\u0903b", []int{2}}, {"", "\u0600\u00adb", []int{2}}, {"", "\u00ad\r\n\u00ad\n", []int{1, 4}}, {"", "a\u2010b-c\u2011d", nil},
		{"1a", "aaaaa\u00adaaaaa", []int{2, 6, 8}}, {"1a", "aaaaa\u00adaaaa\u00ad", []int{2, 6}}, {"1a", "aaaa\u00adaaaa", []int{5}}, {"1a", "\u00adaaaaa\u00ad\u00adaaaaa\u00ad", []int{1, 3, 7, 8, 10}}, {"a1\u00ada", "aaa\u00adaaa", []int{4}},
		// Ranges of letters.
		{"1a", "aaaa", nil}, {"1a", "aaaaa", []int{2}}, {"1a", " aaaaa", []int{3}}, {"1a", "aaaaa ", []int{2}}, {"1a", "aaaaa aaaaa", []int{2, 8}}, {"1a", "aaaa aaaaaa", []int{7, 8}}, {"1a", "aa aa aa aa", nil}, {"1a", "aaaaa1aaaaa", []int{2, 8}}, {"1a", "aaaaa-aaaaa.aaaaa,", []int{2, 8, 14}}, {"1a", "aa'aaa'aaaaa", []int{9}}, {"1a", "aaaaa_aaaaa", []int{2, 8}}, {"1a", "aaaaa\u4e00aaaaa", []int{2, 8}}, {"1a", "\u4e00\u4e00aa\u4e00", nil}, {"1a", "1aaa1", nil}, {"1b", "Abobobo abobobo", []int{3, 11}}, {"1b", "ABOBOBO!", []int{3}},
		{"1a.", "aaaaaa aaaaaa", nil}, {"1aaa.", "aaaaaa aaaaaa", []int{3, 10}}, {".aa1", "aaaaaa aaaaaa", []int{2, 9}}, {".aa1", "1aaaaaa.aaaaaa", []int{3, 10}}, {"1.a", "aa.aaa", nil}, {"1.aaa", "aaa.aaaaaaa", nil},
		{"1a", long, []int{2, 3, 4, 5, 6, 7, 8, 9, 10, 11, 12, 13, 14, 15, 16, 17, 18, 19, 20, 21, 22, 23, 24, 25, 26, 27, 28, 29, 30, 31, 32, 33, 34, 35, 36, 37, 38, 39, 40, 41, 42, 43, 44, 45, 46, 47, 48, 49, 50, 51, 52, 53, 54, 55, 56, 57, 58, 59, 60, 61}}, {"1a", long + "a", nil}, {"1a", "a" + long, nil}, {"1a", long + long + " aaaaa", []int{131}}, {"1a", "aaaaa " + long + "a\u00adaaaaa", []int{2, 72, 74}},
		// Marks, and clusters of several letters.
		{"1a", "aa\u0301aaa", nil}, {"1a", "aa\u0301aaaaa", []int{5}}, {"1a", "aaaaa\u0301aaaaa", []int{2, 8}}, {"a1\u0301", "aaa\u0301aaa", nil}, {"1a", "aaa\u200daaa", nil}, {"1é", "ééééé", []int{2}},
		{"1\u1161", "\u1100\u1100\u1161\u1100\u1100", nil}, {"1\u1161", "aa\u1161aa", []int{2}}, {"1\u1100 1\u1161", "\u1161\u1161\u1100\u1161\u1100\u1161\u1161", []int{2, 4}}, {"1\u11a8", "aa\u11a8aa", []int{2}}, {"1\u11a8", "a\uac00\u11a8aa", nil}, {"1\u11a8", "a\uac01\u11a8aa", nil}, {"1\uac00", "aa\uac00\u11a8aa", []int{2}}, {"1\uac00", "a\u1100\uac00aa", nil}, {"1\uac00", "\u1161\u11a8\uac00aa", []int{2}},
		// Letters of several scripts, and letters that are none.
		{"1ж", "жжжжж", []int{2}}, {"1ж", "aaжжжжж", []int{2, 3, 4}}, {"1\u05d0", "\u05d0\u05d0\u05d0\u05d0\u05d0", []int{2}}, {"1\u4e00", "\u4e00\u4e00\u4e00\u4e00\u4e00\u4e00", nil}, {"1\u3042", "\u3042\u3042\u3042\u3042\u3042", nil}, {"1\u30a2", "\u30a2\u30a2\u30a2\u30a2\u30a2", []int{2}}, {"1ー", "\u30a2\u30a2ー\u30a2\u30a2", []int{2}}, {"1a", "11111", nil},
	} {
		patterns := strings.Fields(row.patterns)
		x := trie(t, patterns...)
		if got := x.In([]rune(row.text)); !slices.Equal(got, row.points) {
			t.Errorf("%q: In(%+q) = %v, not %v", patterns, row.text, got, row.points)
		}
		holds(t, x, patterns, []rune(row.text))
	}
}

// All short texts, in which every position within letters may be a point, and random ones.
func TestP20_3Texts(t *testing.T) {
	all := []string{"1a", "1b", "1é", "1\u1100", "1\u1161", "1\u11a8", "1\uac00", "1\uac01", "1\u00ad", "1\u0301"}
	x := trie(t, all...)
	check := func(text []rune) { holds(t, x, all, text) }
	lists(3, signs(), check)
	lists(6, []rune{'a', 0xAD, 0x301, ' '}, check)
	lists(7, []rune{'a', 0xAD, '.'}, check)
	lists(6, []rune{'a', 0x1100, 0x1161, 0x11A8}, check)
	lists(5, []rune{'a', 0xAC00, 0x11A8, 0xAD, 0x1161}, check)
	next := stream()
	for range 1000 {
		check(some(next, next(40), signs()))
		check(some(next, next(200), signs()[:11]))
		check(some(next, next(40), signs()[:12]))
		patterns := somePatterns(next, next(10), 3, "abé\u1100\u1161\u11a8\uac00")
		y := trie(t, patterns...)
		for range 4 {
			holds(t, y, patterns, some(next, next(40), signs()))
			holds(t, y, patterns, some(next, next(80), signs()[:11]))
		}
	}
}

// Ranges of every length, with something before and behind them, or nothing.
func TestP20_3Lengths(t *testing.T) {
	patterns := []string{".aa1", "1aaa.", "ab1", "1ba"}
	x := trie(t, patterns...)
	next := stream()
	for n := range 70 {
		for _, beside := range [][2]string{{"", ""}, {" ", ""}, {"", " "}, {"\u00ad", "\u00ad"}, {"aaaaaaa\u00ad", " aaaaaaa"}, {"..", "\u0301"}, {"aaaaa\u4e00", "\u00ad"}} {
			for _, text := range [][]rune{slices.Repeat([]rune{'a'}, n), some(next, n, []rune("ab"))} {
				holds(t, x, patterns, slices.Concat([]rune(beside[0]), text, []rune(beside[1])))
			}
		}
	}
}

func TestP20_4Len(t *testing.T) {
	for n := range 513 {
		if x, _, e := New(differing(n)); e != api.OK || x.Len() != n {
			t.Errorf("%d patterns: %d, %d", n, x.Len(), e)
		}
	}
	for _, c := range []struct {
		patterns string
		n        int
	}{{"", 0}, {"a1", 1}, {"a1 ab1", 2}, {"ab1 a1", 2}, {"a1 A1 .a1 a1. .a1.", 5}, {"1b b1", 0}, {"a1 x", 0}} {
		x, _, _ := New(strings.Fields(c.patterns))
		if x.Len() != c.n {
			t.Errorf("%q: %d", c.patterns, x.Len())
		}
		x.Points([]rune("ababab"))
		x.In([]rune("ababab"))
		if x.Len() != c.n {
			t.Errorf("%q, later: %d", c.patterns, x.Len())
		}
	}
}

func TestP20_6WithoutNew(t *testing.T) {
	empty := trie(t)
	var none *Trie
	for _, x := range []*Trie{none, {}, new(Trie), empty} {
		if x.Len() != 0 {
			t.Errorf("Len() = %d", x.Len())
		}
		check := func(text []rune) { holds(t, x, nil, text) }
		lists(3, signs(), check)
		for _, text := range []string{"", "abobobo", "a\u00adb\u00ad", strings.Repeat("a", 64), strings.Repeat("a\u00ad", 200)} {
			check([]rune(text))
		}
		check(nil)
		check(strange())
	}
	if x, _, _ := New([]string{"x"}); x != nil || x.Len() != 0 || !slices.Equal(x.In([]rune{'a', 0xAD, 'b', 0xAD}), []int{2}) || len(x.Points([]rune("xxxxx"))) != 0 {
		t.Errorf("with an error: %v", x)
	}
}

// upper returns the word with A to Z for a to z, where the number says so.
func upper(word []rune, which func() bool) []rune {
	word = slices.Clone(word)
	for i, r := range word {
		if r >= 'a' && r <= 'z' && which() {
			word[i] = r - ' '
		}
	}
	return word
}

func TestP20_8(t *testing.T) {
	next := stream()
	even := func() string {
		return strings.NewReplacer("1", "2", "3", "4", "5", "6", "9", "8").Replace(somePattern(next, 4, "abz"))
	}
	for range 4000 {
		patterns := somePatterns(next, next(12), 4, "abz")
		x := trie(t, patterns...)
		more, _, e := New(append(slices.Clone(patterns), even()))
		if e != api.OK {
			more = x
		}
		for range 6 {
			word := some(next, next(24), []rune("abzé.Z"))
			if next(40) == 0 {
				word = some(next, 60+next(8), []rune("abz"))
			}
			found := x.Points(word)
			for i, point := range found {
				if point < 2 || point > len(word)-3 || i > 0 && point <= found[i-1] {
					t.Fatalf("%q: Points(%q) = %v", patterns, string(word), found)
				}
			}
			for _, other := range [][]rune{upper(word, func() bool { return true }), upper(word, func() bool { return next(2) == 0 })} {
				if !slices.Equal(x.Points(other), found) {
					t.Fatalf("%q: Points(%q) = %v, but Points(%q) = %v", patterns, string(word), found, string(other), x.Points(other))
				}
			}
			for _, point := range more.Points(word) {
				if !slices.Contains(found, point) {
					t.Fatalf("%q: Points(%q) = %v, and one pattern more adds %d", patterns, string(word), found, point)
				}
			}
		}
	}
	for letter := 'a'; letter <= 'z'; letter++ {
		x := trie(t, "1"+string(letter))
		for _, r := range []rune{letter, letter - ' '} {
			if got := x.Points([]rune{'.', '.', r, '.', '.'}); !slices.Equal(got, []int{2}) {
				t.Errorf("%c: %v", r, got)
			}
		}
		for r := rune(-0x100); r < 0x3000; r++ {
			if got := x.Points([]rune{'.', '.', r, '.', '.'}); (len(got) == 1) != (r == letter || r == letter-' ') {
				t.Errorf("1%c and %X: %v", letter, r, got)
			}
		}
	}
}

// Values that are no code points are letters of no pattern, and of the Word class Other.
func TestInvalidRunes(t *testing.T) {
	patterns := []string{"1a", "1\ufffd", "1\x00", "1\U0010ffff", ".aa1"}
	x := trie(t, patterns...)
	for _, r := range strange() {
		for _, text := range [][]rune{{r}, {r, r, r, r, r, r}, {'a', 'a', r, 'a', 'a', 'a'}, {r, 'a', 'a', 'a', 'a', 'a', r}, {0xAD, r, 0xAD, r}, {'a', 'a', 'a', 'a', 'a', r, 'a', 'a', 'a', 'a', 'a'}} {
			holds(t, x, patterns, text)
		}
		if got := x.Points([]rune{r, r, r, 'a', r, r, r}); !slices.Equal(got, []int{3}) {
			t.Errorf("%X: %v", r, got)
		}
		if got := x.In([]rune{0xAD, r, 'a', 'a', 'a', 'a', 'a', r, 0xAD}); !slices.Equal(got, []int{1, 4}) {
			t.Errorf("%X: %v", r, got)
		}
	}
	next := stream()
	for range 2000 {
		holds(t, x, patterns, some(next, next(20), append(strange(), 'a', 'a', 'a', 0xAD, 0xFFFD)))
	}
}

// No call writes to the text, nor behind it, and no result hangs on it or on another result.
func TestR5Texts(t *testing.T) {
	patterns := []string{"1a", "1b", "ab2", ".aa3", "1\u1161"}
	x := trie(t, patterns...)
	check := func(given []rune) {
		memory := append(slices.Clone(given), 'a', 0xAD, 'A', 0x301)
		before := slices.Clone(memory)
		text := memory[:len(given)]
		first, second := x.Points(text), x.In(text)
		moreFirst, moreSecond := x.Points(text), x.In(text)
		wantFirst, wantSecond := slices.Clone(first), slices.Clone(second)
		spoil(first, -7)
		spoil(second, -7)
		if !slices.Equal(memory, before) {
			t.Fatalf("%X was written to: %X", before, memory)
		}
		spoil(memory, 'b')
		if !slices.Equal(moreFirst, wantFirst) || !slices.Equal(moreSecond, wantSecond) {
			t.Fatalf("%X: with what else there is written to, the results are %v and %v", before, moreFirst, moreSecond)
		}
		holds(t, x, patterns, given)
	}
	lists(3, signs(), check)
	next := stream()
	for range 2000 {
		check(some(next, next(40), signs()))
		check(some(next, next(40), []rune("abAB\u00ad")))
	}
}

// What is done with the list of patterns afterwards, and with what Parse returned, doesn't change the trie.
func TestR5Patterns(t *testing.T) {
	patterns := []string{"1b", "o2b", "", "x"}
	x, _, e := New(patterns[:2])
	if e != api.OK || !slices.Equal(patterns, []string{"1b", "o2b", "", "x"}) {
		t.Fatalf("%q, %d", patterns, e)
	}
	letters, digits, _ := Parse("1b")
	spoil(letters, 'o')
	spoil(digits, 9)
	spoil(patterns, "o1o")
	holds(t, x, []string{"1b", "o2b"}, []rune("abobobo"))
	if x.Len() != 2 || len(x.Points([]rune("abobobo"))) != 0 || !slices.Equal(x.Points([]rune("xxbbxxx")), []int{2, 3}) {
		t.Errorf("%d, %v", x.Len(), x.Points([]rune("xxbbxxx")))
	}
	letters, digits, ok := Parse("1b")
	if !ok || string(letters) != "b" || !slices.Equal(digits, []int{1, 0}) {
		t.Errorf("%q, %v, %t", letters, digits, ok)
	}
	roomyLetters, roomyDigits := append([]rune{'a', 'b'}, '.', '1'), append([]int{0, 1, 0}, 5, 6)
	if s := Print(roomyLetters[:2], roomyDigits[:3]); s != "a1b" || string(roomyLetters) != "ab.1" || !slices.Equal(roomyDigits, []int{0, 1, 0, 5, 6}) {
		t.Errorf("%q, %q, %v", s, string(roomyLetters), roomyDigits)
	}
	for _, s := range []string{"1b", ".a2b", "9a8b7."} {
		letters, digits, _ := Parse(s)
		again, numbers, _ := Parse(s)
		spoil(letters, -1)
		spoil(digits, -1)
		if !slices.Equal(again, lettersOf(s)) || !slices.Equal(numbers, digitsOf(s)) {
			t.Errorf("%q: two results share memory", s)
		}
	}
}

// No call hangs on those before it, and no trie on another one.
func TestR4Calls(t *testing.T) {
	x, y := trie(t, "1b"), trie(t, "1b", "o2b")
	for range 3 {
		if !slices.Equal(x.Points([]rune("abobobo")), []int{3}) || len(y.Points([]rune("abobobo"))) != 0 {
			t.Errorf("%v and %v", x.Points([]rune("abobobo")), y.Points([]rune("abobobo")))
		}
		if !slices.Equal(x.In([]rune("xxbxx\u00adabobobo")), []int{2, 6, 9}) || !slices.Equal(y.In([]rune("xxbxx\u00adabobobo")), []int{2, 6}) {
			t.Errorf("%v and %v", x.In([]rune("xxbxx\u00adabobobo")), y.In([]rune("xxbxx\u00adabobobo")))
		}
		if _, i, e := New([]string{"1b", "b2"}); i != 1 || e != api.ErrTwice {
			t.Errorf("%d, %d", i, e)
		}
		Parse("1x2y")
		Print([]rune("xy"), []int{1, 2, 0})
		if z := trie(t); len(z.Points([]rune("abobobo"))) != 0 || z.Len() != 0 {
			t.Error("a trie without patterns")
		}
	}
	next := stream()
	patterns := somePatterns(next, 200, 5, "abcdef")
	x = trie(t, patterns...)
	for range 30 {
		word := some(next, 64, []rune("abcdef"))
		for range 10 {
			if got, want := trie(t, patterns...).Points(word), x.Points(word); !slices.Equal(got, want) {
				t.Fatalf("%q: %v and %v", string(word), got, want)
			}
		}
	}
}

// A nil list is as an empty one.
func TestR6Empty(t *testing.T) {
	x := trie(t, "1a")
	for _, text := range [][]rune{nil, {}} {
		if len(x.Points(text)) != 0 || len(x.In(text)) != 0 {
			t.Errorf("%v and %v", x.Points(text), x.In(text))
		}
		for _, digits := range [][]int{nil, {}, {0}, {1}, {1, 2}} {
			if s := Print(text, digits); s != "" {
				t.Errorf("Print(%v, %v) = %q", text, digits, s)
			}
		}
	}
	for _, digits := range [][]int{nil, {}} {
		if s := Print([]rune{'a'}, digits); s != "" {
			t.Errorf("Print(a, %v) = %q", digits, s)
		}
	}
}

// The greatest texts and lists.
func TestR8Long(t *testing.T) {
	for _, s := range []string{strings.Repeat("a", most), strings.Repeat("1a", most), strings.Repeat(".", most), strings.Repeat("1", most), strings.Repeat("語", most), "a1" + strings.Repeat(".", most), strings.Repeat("a", 1<<20), strings.Repeat("\xff", 1<<20)} {
		if letters, digits, ok := Parse(s); ok || len(letters) != 0 || len(digits) != 0 {
			t.Errorf("Parse of %d bytes", len(s))
		}
		if x, i, e := New([]string{"a1", s}); x != nil || i != 1 || e != api.ErrForm {
			t.Errorf("New with %d bytes: %d, %d", len(s), i, e)
		}
	}
	for _, n := range []int{most - 1, most} {
		if s := Print(slices.Repeat([]rune{'a'}, n), slices.Repeat([]int{1}, n+1)); s != "" {
			t.Errorf("Print of %d letters: %d bytes", n, len(s))
		}
	}
	patterns := make([]string, most)
	if _, i, e := New(patterns); i != 0 || e != api.ErrMany {
		t.Errorf("%d patterns: %d, %d", most, i, e)
	}
}

// 512 patterns of 16 letters and two dots, and texts of the greatest length.
func TestR8LongTexts(t *testing.T) {
	next := stream()
	var patterns []string
	for i := range 512 {
		pattern := []rune("aaaaaaaaaaaaaaaa")
		for k := range 9 {
			pattern[k] += rune(i >> k & 1)
		}
		patterns = append(patterns, []string{"", "", "", ".", "."}[i%5]+string(pattern[:7])+"1"+string(pattern[7:])+"1"+[]string{"", "", ".", "", "."}[i%5])
	}
	x := trie(t, patterns...)
	for range 40 {
		holds(t, x, patterns, some(next, next(65), []rune("aab")))
		holds(t, x, patterns, slices.Concat(some(next, next(20), []rune("ab")), lettersOf(strings.Trim(patterns[next(512)], ".")), some(next, next(20), []rune("ab"))))
	}
	few := []string{"1ab", "b1a", "2bb", ".aa3", "1\u11a8"}
	y := trie(t, few...)
	for _, unit := range []string{"a", "\u00ad", "ab ", "aaaaaaa\u00ad", "aabab\u0301", "\u1100\u1161\u11a8", "abababab.", "\u00ad\u0301", strings.Repeat("ab", 32) + " ", strings.Repeat("ab", 33) + "\u00ad"} {
		part := []rune(unit)
		text := slices.Repeat(part, most/len(part))
		short := in(few, slices.Repeat(part, 160/len(part)+4))
		got := y.In(text)
		var want []int
		// What is found in a unit that isn't the first or the last one is found in each of them.
		for i := 0; i < len(text); i += len(part) {
			for _, point := range short {
				if point > len(part) && point <= 2*len(part) && i+point-len(part) < len(text) {
					want = append(want, i+point-len(part))
				}
			}
		}
		if !slices.Equal(got, want) {
			t.Errorf("%+q: %d points, not %d", unit, len(got), len(want))
		}
		if len(y.Points(text)) != 0 {
			t.Errorf("%+q: a word of %d letters has points", unit, len(text))
		}
	}
}

func TestExamples(t *testing.T) {
	letters, digits, ok := Parse("1b.")
	if !ok || !slices.Equal(letters, []rune{'b', '.'}) || !slices.Equal(digits, []int{1, 0, 0}) {
		t.Errorf("1b.: %q, %v, %t", letters, digits, ok)
	}
	letters, digits, ok = Parse(".a2b")
	if !ok || !slices.Equal(letters, []rune{'.', 'a', 'b'}) || !slices.Equal(digits, []int{0, 0, 2, 0}) {
		t.Errorf(".a2b: %q, %v, %t", letters, digits, ok)
	}
	for _, s := range []string{"a", "a12"} {
		if _, _, ok := Parse(s); ok {
			t.Errorf("%s is no pattern", s)
		}
	}
	if got := trie(t, "1b").Points([]rune("abobobo")); !slices.Equal(got, []int{3}) {
		t.Errorf("1b: %v", got)
	}
	if got := trie(t, "1b", "o2b").Points([]rune("abobobo")); len(got) != 0 {
		t.Errorf("1b and o2b: %v", got)
	}
}
