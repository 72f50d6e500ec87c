package hyphen

import (
	"math"
	"regexp"
	"slices"
	"strings"
	"testing"

	"typecase/api"
	"typecase/grapheme"
	"typecase/props"
)

// most is the greatest number of elements of a list for which the document promises something (R8).
const most = 1 << 16

// form is the chapter's definition of a pattern, but for the digit that isn't 0, and for UTF-8.
var form = regexp.MustCompile(`^(?:[0-9]?\.)?(?:[0-9]?[^0-9.]){1,16}(?:[0-9]?\.)?[0-9]?$`)

// isPattern tells whether the chapter calls s a pattern.
func isPattern(s string) bool {
	return string([]rune(s)) == s && form.MatchString(s) && strings.ContainsAny(s, "123456789")
}

// lettersOf returns the letters of a pattern.
func lettersOf(pattern string) []rune {
	return []rune(strings.Map(func(r rune) rune {
		if strings.ContainsRune("0123456789", r) {
			return -1
		}
		return r
	}, pattern))
}

// digitsOf returns the digits of a pattern: each is the byte just before a letter or the end.
func digitsOf(pattern string) []int {
	before := func(at int) int {
		if at > 0 && pattern[at-1] >= '0' && pattern[at-1] <= '9' {
			return int(pattern[at-1] - '0')
		}
		return 0
	}
	var digits []int
	for at, r := range pattern {
		if !strings.ContainsRune("0123456789", r) {
			digits = append(digits, before(at))
		}
	}
	return append(digits, before(len(pattern)))
}

// printed is what Print is asked for, by what the definition asks of letters and digits.
func printed(letters []rune, digits []int) string {
	others := 0
	for i, r := range letters {
		if r < 0 || r > 0x10FFFF || r >= 0xD800 && r <= 0xDFFF || r >= '0' && r <= '9' {
			return ""
		}
		if r != '.' {
			others++
		} else if i != 0 && i != len(letters)-1 {
			return ""
		}
	}
	highest := 0
	for _, digit := range digits {
		if digit < 0 || digit > 9 {
			return ""
		}
		highest = max(highest, digit)
	}
	if others < 1 || others > 16 || highest == 0 || len(digits) != 1+len(letters) {
		return ""
	}
	signs := [10]string{"", "1", "2", "3", "4", "5", "6", "7", "8", "9"}
	text := ""
	for i, r := range letters {
		text += signs[digits[i]] + string(r)
	}
	return text + signs[digits[len(letters)]]
}

// made is what New is asked for.
func made(patterns []string) (int, api.Errno) {
	if len(patterns) > 512 {
		return 0, api.ErrMany
	}
	seen := map[string]bool{}
	for i, pattern := range patterns {
		if !isPattern(pattern) {
			return i, api.ErrForm
		}
		if seen[string(lettersOf(pattern))] {
			return i, api.ErrTwice
		}
		seen[string(lettersOf(pattern))] = true
	}
	return 0, api.OK
}

// points is what Points is asked for: each pattern is laid on each place of the word between dots.
func points(patterns []string, word []rune) []int {
	if len(word) > 64 {
		return nil
	}
	text := []rune{'.'}
	for _, r := range word {
		if i := strings.IndexRune("ABCDEFGHIJKLMNOPQRSTUVWXYZ", r); i >= 0 {
			r = rune("abcdefghijklmnopqrstuvwxyz"[i])
		}
		text = append(text, r)
	}
	text = append(text, '.')
	weights := map[int]int{}
	for _, pattern := range patterns {
		letters, digits := lettersOf(pattern), digitsOf(pattern)
		for at := 0; at+len(letters) <= len(text); at++ {
			if !slices.Equal(text[at:at+len(letters)], letters) {
				continue
			}
			for k, digit := range digits {
				weights[at+k-1] = max(weights[at+k-1], digit)
			}
		}
	}
	var found []int
	for i := range len(word) {
		if i >= 2 && i <= len(word)-3 && weights[i]&1 != 0 {
			found = append(found, i)
		}
	}
	return found
}

// isLetter tells whether the code point at i of the text is there, and of the Word class Letter.
func isLetter(text []rune, i int) bool {
	return i >= 0 && i < len(text) && props.Of(text[i]).Word == api.WdLetter
}

// in is what In is asked for, position by position.
func in(patterns []string, text []rune) []int {
	var found []int
	of := map[int][]int{} // the points of the ranges, by their starts
	for _, i := range grapheme.Bounds(text) {
		if i > 0 && i < len(text) && text[i-1] == 0xAD {
			found = append(found, i)
			continue
		}
		if !isLetter(text, i-1) || !isLetter(text, i) {
			continue
		}
		from, to := i, i
		for isLetter(text, from-1) {
			from--
		}
		for isLetter(text, to) {
			to++
		}
		if _, ok := of[from]; !ok {
			of[from] = points(patterns, text[from:to])
		}
		if slices.Contains(of[from], i-from) {
			found = append(found, i)
		}
	}
	return found
}

// trie returns the trie of the patterns, which are right.
func trie(t *testing.T, patterns ...string) *Trie {
	t.Helper()
	x, i, e := New(patterns)
	if x == nil || i != 0 || e != api.OK {
		t.Fatalf("New(%q) = %v, %d, %d", patterns, x, i, e)
	}
	if x.Len() != len(patterns) {
		t.Fatalf("New(%q) has %d patterns", patterns, x.Len())
	}
	return x
}

// holds checks what the trie of the patterns says about the text, as a word and as a text.
func holds(t *testing.T, x *Trie, patterns []string, text []rune) {
	t.Helper()
	if got, want := x.Points(text), points(patterns, text); !slices.Equal(got, want) {
		t.Fatalf("%q: Points(%q %X) = %v, not %v", patterns, string(text), text, got, want)
	}
	if got, want := x.In(text), in(patterns, text); !slices.Equal(got, want) {
		t.Fatalf("%q: In(%q %X) = %v, not %v", patterns, string(text), text, got, want)
	}
}

// parses checks what Parse says about s, and that Print leads back.
func parses(t *testing.T, s string) {
	t.Helper()
	letters, digits, ok := Parse(s)
	if !isPattern(s) {
		if ok || len(letters) != 0 || len(digits) != 0 {
			t.Fatalf("Parse(%q) = %q, %v, %t", s, letters, digits, ok)
		}
		return
	}
	if !ok || !slices.Equal(letters, lettersOf(s)) || !slices.Equal(digits, digitsOf(s)) {
		t.Fatalf("Parse(%q) = %q, %v, %t, not %q, %v", s, letters, digits, ok, lettersOf(s), digitsOf(s))
	}
	if back := Print(letters, digits); back != strings.ReplaceAll(s, "0", "") {
		t.Fatalf("Parse(%q) is printed as %q", s, back)
	}
}

// prints checks what Print says about letters and digits, and that Parse leads back.
func prints(t *testing.T, letters []rune, digits []int) {
	t.Helper()
	s := Print(letters, digits)
	if want := printed(letters, digits); s != want {
		t.Fatalf("Print(%X, %v) = %q, not %q", letters, digits, s, want)
	}
	if s == "" {
		return
	}
	backLetters, backDigits, ok := Parse(s)
	if !ok || !slices.Equal(backLetters, letters) || !slices.Equal(backDigits, digits) {
		t.Fatalf("Print(%X, %v) is parsed as %X, %v, %t", letters, digits, backLetters, backDigits, ok)
	}
}

// lists calls visit with each list of at most longest of the given elements.
func lists[T any](longest int, among []T, visit func(list []T)) {
	count := 1
	for size := range longest + 1 {
		for code := range count {
			list := make([]T, size)
			for i := range list {
				list[i] = among[code%len(among)]
				code /= len(among)
			}
			visit(list)
		}
		count *= len(among)
	}
}

// stream returns a function that returns numbers from 0 up to n, the same ones each time.
func stream() func(n int) int {
	state := uint64(1)
	return func(n int) int {
		state = state*6364136223846793005 + 1442695040888963407
		return int(state >> 33 % uint64(n))
	}
}

// some returns a list of n of the given elements.
func some[T any](next func(int) int, n int, among []T) []T {
	list := make([]T, n)
	for i := range list {
		list[i] = among[next(len(among))]
	}
	return list
}

// somePattern returns a pattern of at most longest of the given letters, often with dots, and digits that are often 0.
func somePattern(next func(int) int, longest int, among string) string {
	text := func(sign string) string {
		return []string{"", "", "", "0", "1", "2", "3", "5", "8", "9"}[next(10)] + sign
	}
	for {
		s := ""
		if next(5) == 0 {
			s += text(".")
		}
		for _, r := range some(next, 1+next(longest), []rune(among)) {
			s += text(string(r))
		}
		if next(5) == 0 {
			s += text(".")
		}
		s += text("")
		if strings.ContainsAny(s, "123589") {
			return s
		}
	}
}

// somePatterns returns n patterns at most, no two of which have the same letters.
func somePatterns(next func(int) int, n, longest int, among string) []string {
	var patterns []string
	seen := map[string]bool{}
	for range n {
		pattern := somePattern(next, longest, among)
		if !seen[string(lettersOf(pattern))] {
			patterns = append(patterns, pattern)
		}
		seen[string(lettersOf(pattern))] = true
	}
	return patterns
}

// signs are letters, also of clusters with others, soft hyphens, marks, joiners, and what is neither.
func signs() []rune {
	return []rune{'a', 'b', 'A', 'B', 0x1100, 0x1161, 0x11A8, 0xAC00, 0xAC01, 0xE9, 0xAD, 0x301, 0x200D, 0x903, ' ', '.', '1', 0x4E00, '\r', '\n', 0x600, 0x1F1E6, 0x1F466}
}

// strange are runes that are no code points.
func strange() []rune {
	return []rune{math.MinInt32, math.MinInt32 + 'a', -0x110000, -0xAD, -'a', -2, -1, 0xD800, 0xD861, 0xDBFF, 0xDC00, 0xDFFF, 0x110000, 0x110061, 1<<30 + 'a', math.MaxInt32}
}

// spoil writes to all memory of the list, also to the room behind it.
func spoil[T any](list []T, with T) {
	for i := range list[:cap(list)] {
		list[:cap(list)][i] = with
	}
}

// What the tests are held against, written by hand: a mistake in it would go unseen elsewhere.
func TestChapterReading(t *testing.T) {
	for _, c := range []struct {
		s, letters string
		digits     []int
		ok         bool
	}{
		{"1b.", "b.", []int{1, 0, 0}, true}, {".a2b", ".ab", []int{0, 0, 2, 0}, true}, {"a", "a", []int{0, 0}, false}, {"a12", "a", []int{0, 2}, false}, {"\n5", "\n", []int{0, 5}, true}, {"a\n5\n", "a\n\n", []int{0, 0, 5, 0}, true},
		{"é9語8.7", "é語.", []int{0, 9, 8, 7}, true}, {"\xff1", "\ufffd", []int{0, 1}, false}, {"a\xed\xa0\x80", "a\ufffd\ufffd\ufffd", []int{0, 0, 0, 0, 0}, false},
	} {
		if isPattern(c.s) != c.ok || string(lettersOf(c.s)) != c.letters || !slices.Equal(digitsOf(c.s), c.digits) {
			t.Errorf("%q: %t, %q, %v", c.s, isPattern(c.s), lettersOf(c.s), digitsOf(c.s))
		}
		if c.ok && printed([]rune(c.letters), c.digits) != c.s {
			t.Errorf("%q: printed as %q", c.s, printed([]rune(c.letters), c.digits))
		}
	}
	if got := points([]string{"1b"}, []rune("abobObo")); !slices.Equal(got, []int{3}) {
		t.Errorf("the points are %v", got)
	}
	if got := in([]string{"1b"}, []rune("abobObo\u00adxxbxx")); !slices.Equal(got, []int{3, 8, 10}) {
		t.Errorf("the points in a text are %v", got)
	}
}

// The signs of the tests are of the classes that the tests need.
func TestSigns(t *testing.T) {
	for i, r := range signs() {
		if (props.Of(r).Word == api.WdLetter) != (i < 10) {
			t.Errorf("%X is of the Word class %d", r, props.Of(r).Word)
		}
	}
	if grapheme.Count([]rune{0x1100, 0x1161, 0x11A8}) != 1 || grapheme.Count([]rune{0xAC00, 0x11A8}) != 1 || grapheme.Count([]rune{0xAD, 0x301}) != 2 {
		t.Error("clusters")
	}
}
