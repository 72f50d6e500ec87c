package brackets

import (
	"math"
	"slices"
	"testing"

	"typecase/api"
)

const (
	low  = math.MinInt
	high = math.MaxInt
)

const (
	l   = api.BidiL
	r   = api.BidiR
	en  = api.BidiEN
	an  = api.BidiAN
	nsm = api.BidiNSM
	on  = api.BidiON
)

// pairsOfTable are the opening brackets of the table of layer 4 and what closes them, written by hand, so that the tests don't lean on another layer.
func pairsOfTable() [][2]rune {
	return [][2]rune{
		{'(', ')'}, {'[', ']'}, {'{', '}'}, {0x2045, 0x2046}, {0x2329, 0x232A}, {0x3008, 0x3009}, {0x300A, 0x300B}, {0x300C, 0x300D}, {0x300E, 0x300F}, {0x3010, 0x3011}, {0xFF08, 0xFF09},
	}
}

// shape returns the number of the pair that the code point is part of, and which side of it it is, 0 or 1; the old angle brackets count as the newer ones. It returns -1 and -1 for what is no bracket.
func shape(code rune) (pair, side int) {
	for pair, both := range pairsOfTable() {
		for side, bracket := range both {
			if bracket == code && pair == 4 {
				return 5, side
			}
			if bracket == code {
				return pair, side
			}
		}
	}
	return -1, -1
}

// isMark tells whether the code point is one of the tests' marks, which are of class NSM by the table.
func isMark(code rune) bool { return slices.Contains(marks(), code) }

func marks() []rune {
	return []rune{0x300, 0x301, 0x36F, 0x483, 0x489, 0x591, 0x5BF, 0x610, 0x64B, 0x670, 0x902, 0x94D, 0xE31, 0xE4E, 0x20D0, 0x3099, 0xFB1E, 0xFE00, 0xFE0F, 0xFE20, 0xE0100, 0xE01EF}
}

// others are code points that are neither brackets nor of class NSM by the table, and values that are no code points.
func others() []rune {
	return []rune{
		'a', 'z', '1', '!', ' ', '<', '>', '/', 0, 0xA0, 0xAB, 0xAD, 0xBB, 0x2FF, 0x370, 0x5D0, 0x5BE, 0x627, 0x660, 0x903, 0x93E, 0x200B, 0x200C, 0x200D, 0x200E, 0x200F, 0x2018, 0x201C, 0x2028, 0x202A, 0x2060, 0x2066, 0x2069, 0x2208,
		0x2264, 0x27E6, 0x27E7, 0x4E00, 0xFF3B, 0xFF3D, 0xFEFF, 0x1F3FB, 0xE0020, 0xE00FF, 0xE01F0, 0x10FFFF, 0x110000, math.MaxInt32, -1, -'(', math.MinInt32, 0xD800, 0xDFFF,
	}
}

// strangeClasses are values that are no classes.
func strangeClasses() []int {
	return []int{low, -1 << 32, -14, -2, -1, 0, 24, 25, 1<<32 + on, 1<<32 + l, high}
}

// everyClass returns all classes, and values that are none.
func everyClass() []int {
	all := strangeClasses()
	for class := api.BidiL; class <= api.BidiPDI; class++ {
		all = append(all, class)
	}
	return all
}

// waits tells whether an opening bracket at i is still on the stack when the pairs are the ones found so far: each one pops its own and all that was pushed after that.
func waits(found [][2]int, i int) bool {
	return !slices.ContainsFunc(found, func(pair [2]int) bool { return pair[0] <= i && i < pair[1] })
}

// pairsByChapter is the chapter's definition of pairing, without a stack.
func pairsByChapter(text []rune, classes []int) [][2]int {
	var found [][2]int
scan:
	for at, code := range text {
		pair, side := shape(code)
		if classes[at] != on || side < 0 {
			continue
		}
		depth := 0
		for i := at - 1; i >= 0; i-- {
			if opened, first := shape(text[i]); first == 0 && classes[i] == on && waits(found, i) {
				depth++
				if side == 1 && opened == pair {
					found = append(found, [2]int{i, at})
					break
				}
			}
		}
		if side == 0 && depth == 63 {
			break scan
		}
	}
	var sorted [][2]int
	for i := range text {
		for _, pair := range found {
			if pair[0] == i {
				sorted = append(sorted, pair)
			}
		}
	}
	return sorted
}

// seen returns the class as the resolution sees it.
func seen(class int) int {
	if class == en || class == an {
		return r
	}
	return class
}

// resolvedByChapter is the chapter's definition of resolution for texts of the tests' marks and others.
func resolvedByChapter(text []rune, classes []int, level, sos int) []int {
	now := slices.Clone(classes)
	e, opposite := l, r
	if level&1 == 1 {
		e, opposite = r, l
	}
	for _, pair := range pairsByChapter(text, classes) {
		within := map[int]bool{}
		for i := pair[0] + 1; i < pair[1]; i++ {
			within[seen(now[i])] = true
		}
		before := sos
		for i := range pair[0] {
			if class := seen(now[i]); class == l || class == r {
				before = class
			}
		}
		var class int
		switch {
		case within[e]:
			class = e
		case within[opposite] && before == opposite:
			class = opposite
		case within[opposite]:
			class = e
		default:
			continue
		}
		for _, bracket := range pair {
			now[bracket] = class
			for i := bracket + 1; i < len(text) && isMark(text[i]); i++ {
				now[i] = class
			}
		}
	}
	return now
}

// nested checks P9.3 for the pairs of the text.
func nested(t *testing.T, text []rune, classes []int, pairs [][2]int) {
	t.Helper()
	owners := make([]int, len(text))
	for i, pair := range pairs {
		for side, at := range pair {
			shapeAt, sideAt := shape(text[at])
			first, _ := shape(text[pair[0]])
			if owners[at]++; owners[at] > 1 || sideAt != side || shapeAt != first || classes[at] != on {
				t.Fatalf("%X, %v: %v has a wrong bracket at %d", text, classes, pairs, at)
			}
		}
		for _, other := range pairs[i+1:] {
			beside, inside := pair[1] < other[0], pair[0] < other[0] && other[1] < pair[1]
			if pair[0] >= other[0] || !beside && !inside {
				t.Fatalf("%X, %v: %v and %v cross", text, classes, pair, other)
			}
		}
	}
}

// kept checks P9.4 and P9.5 for what the classes of the text became.
func kept(t *testing.T, text []rune, classes []int, pairs [][2]int, now []int) {
	t.Helper()
	may := make([]bool, len(text))
	for _, pair := range pairs {
		if now[pair[0]] != now[pair[1]] {
			t.Fatalf("%X, %v: %v has two classes in %v", text, classes, pair, now)
		}
		for _, bracket := range pair {
			may[bracket] = true
			for i := bracket + 1; i < len(text) && isMark(text[i]); i++ {
				may[i] = true
			}
		}
	}
	strong := slices.ContainsFunc(classes, func(class int) bool { return slices.Contains([]int{l, r, en, an}, class) })
	for i, class := range now {
		if class != classes[i] && (!may[i] || !strong || class != l && class != r) {
			t.Fatalf("%X, %v: %v has a wrong class at %d", text, classes, now, i)
		}
	}
}

// holds checks both functions for the text at the levels and with either sos, and returns how many pairs it has.
func holds(t *testing.T, text []rune, classes []int, levels ...int) int {
	t.Helper()
	want := pairsByChapter(text, classes)
	pairs := Pairs(text, classes)
	if !slices.Equal(pairs, want) {
		t.Fatalf("Pairs(%X, %v) = %v, not %v", text, classes, pairs, want)
	}
	nested(t, text, classes, pairs)
	for _, level := range levels {
		for _, sos := range []int{l, r} {
			want := resolvedByChapter(text, classes, level, sos)
			now := Resolve(text, classes, level, sos)
			if !slices.Equal(now, want) {
				t.Fatalf("Resolve(%X, %v, %d, %d) = %v, not %v", text, classes, level, sos, now, want)
			}
			kept(t, text, classes, pairs, now)
		}
	}
	return len(pairs)
}

// sign is a code point and its class in the list.
type sign struct {
	code  rune
	class int
}

// signs returns what the letters of the tests' patterns stand for.
func signs() map[rune]sign {
	return map[rune]sign{
		'(': {'(', on}, ')': {')', on}, '[': {'[', on}, ']': {']', on}, '{': {'{', on}, '}': {'}', on},
		'<': {0x2329, on}, '>': {0x232A, on}, 'o': {0x3008, on}, 'c': {0x3009, on}, // the angle brackets, old and new
		'x': {'(', l}, 'y': {')', r}, 'z': {']', api.BidiWS}, // no brackets here, since their class isn't ON
		'l': {'a', l}, 'r': {0x5D0, r}, 'e': {'1', en}, 'a': {0x660, an}, '.': {'!', on}, '?': {'a', nsm},
		'm': {0x301, on}, 'n': {0x5BF, nsm}, 'L': {0x94D, l}, 'R': {0xFE0F, r}, 'E': {0x36F, en}, // marks, whatever their class in the list
	}
}

// spell returns the text and the classes that the pattern stands for.
func spell(pattern string) (text []rune, classes []int) {
	all := signs()
	for _, letter := range pattern {
		text = append(text, all[letter].code)
		classes = append(classes, all[letter].class)
	}
	return text, classes
}

// tell returns the classes as a pattern.
func tell(classes []int) string {
	letters := map[int]rune{l: 'L', r: 'R', en: 'E', an: 'A', on: '.', nsm: 'N', api.BidiWS: 'W'}
	var told []rune
	for _, class := range classes {
		told = append(told, letters[class])
	}
	return string(told)
}

// patterns calls visit with each pattern of at most most of the given letters.
func patterns(most int, letters string, visit func(text []rune, classes []int)) {
	all := signs()
	count := 1
	for size := range most + 1 {
		for code := range count {
			text, classes := make([]rune, size), make([]int, size)
			for i := range size {
				s := all[rune(letters[code%len(letters)])]
				text[i], classes[i] = s.code, s.class
				code /= len(letters)
			}
			visit(text, classes)
		}
		count *= len(letters)
	}
}

// stream returns a function that returns numbers from 0 up to n, the same ones each time.
func stream() func(n int) int {
	state := uint64(1)
	return func(n int) int {
		state = state*6364136223846793005 + 1442695040888963407
		return int(state >> 33 % uint64(n))
	}
}
