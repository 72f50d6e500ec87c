package mirror

import (
	"math"
	"slices"
	"strconv"
	"strings"
	"testing"

	"typecase/props"
)

const (
	// most is the greatest number of elements of a list for which the document promises something (R8).
	most = 1 << 16
	// top is the greatest code point.
	top rune = 0x10FFFF
)

// mirrorPairs are the code points of the table in chapter 4 that have a Mirror, each with its Mirror, as they stand there.
func mirrorPairs() [][2]rune {
	return [][2]rune{
		{0x0028, 0x0029}, {0x0029, 0x0028}, {0x003C, 0x003E}, {0x003E, 0x003C}, {0x005B, 0x005D}, {0x005D, 0x005B}, {0x007B, 0x007D}, {0x007D, 0x007B},
		{0x00AB, 0x00BB}, {0x00BB, 0x00AB}, {0x2039, 0x203A}, {0x203A, 0x2039}, {0x2045, 0x2046}, {0x2046, 0x2045}, {0x2208, 0x220B}, {0x220B, 0x2208},
		{0x2264, 0x2265}, {0x2265, 0x2264}, {0x2329, 0x232A}, {0x232A, 0x2329}, {0x3008, 0x3009}, {0x3009, 0x3008}, {0x300A, 0x300B}, {0x300B, 0x300A},
		{0x300C, 0x300D}, {0x300D, 0x300C}, {0x300E, 0x300F}, {0x300F, 0x300E}, {0x3010, 0x3011}, {0x3011, 0x3010}, {0xFF08, 0xFF09}, {0xFF09, 0xFF08},
	}
}

// mirrorOf returns the Mirror of r, or 0 if it has none.
func mirrorOf(r rune) rune {
	for _, pair := range mirrorPairs() {
		if pair[0] == r {
			return pair[1]
		}
	}
	return 0
}

// mirrored returns the code points that have a Mirror.
func mirrored() []rune {
	var all []rune
	for _, pair := range mirrorPairs() {
		all = append(all, pair[0])
	}
	return all
}

// plain are code points without a Mirror: of all kinds, beside those that have one, and such as Unicode mirrors but the table doesn't.
func plain() []rune {
	all := []rune{
		0, 1, 9, 10, 13, ' ', '!', '"', '\'', '*', '+', '-', '/', '0', '9', '=', '?', 'A', 'Z', '\\', '^', 'a', 'b', 'p', 'q', 'z', '|', '~',
		0x7F, 0xA0, 0xAC, 0xB7, 0xBF, 0x301, 0x3A9, 0x416, 0x5D0, 0x5EA, 0x600, 0x627, 0x628, 0x660, 0x6DD, 0x915, 0xE01, 0x1100, 0x1161, 0x11A8,
		0x200B, 0x200D, 0x200E, 0x200F, 0x2018, 0x2019, 0x201C, 0x201D, 0x202A, 0x202B, 0x202C, 0x202D, 0x202E, 0x2044, 0x2066, 0x2067, 0x2068, 0x2069,
		0x207D, 0x207E, 0x2190, 0x2192, 0x2201, 0x2209, 0x220A, 0x220C, 0x220D, 0x221A, 0x2211, 0x222B, 0x2266, 0x2267, 0x226A, 0x226B, 0x2282, 0x2283, 0x2308, 0x2309,
		0x2768, 0x2769, 0x27E8, 0x27E9, 0x2983, 0x2E28, 0x3000, 0x3001, 0x3012, 0x3014, 0x3015, 0x301D, 0x4E00, 0xAC00, 0xAC01, 0xD7A3, 0xD7FF, 0xE000,
		0xFD3E, 0xFD3F, 0xFE59, 0xFE5A, 0xFEFF, 0xFF1C, 0xFF1E, 0xFF3B, 0xFF3D, 0xFF5B, 0xFF5D, 0xFF62, 0xFF63, 0xFFFC, 0xFFFD, 0xFFFF,
		0x10000, 0x10028, 0x1D6DB, 0x1F1E6, 0x1F600, 0x20000, 0xE0028, 0xE0100, 0x10FFFE, top,
	}
	for _, r := range mirrored() {
		all = append(all, r-1, r+1, r+0x80, r+0x100, r+0x10000)
	}
	return slices.DeleteFunc(all, func(r rune) bool { return mirrorOf(r) != 0 })
}

// notCodes are runes that are no code points.
func notCodes() []rune {
	all := []rune{math.MinInt32, math.MinInt32 + 1, -0x110000, -0x10FFFF, -0x10000, -2, -1, 0xD800, 0xD801, 0xD828, 0xDBFF, 0xDC00, 0xDC28, 0xDFFE, 0xDFFF, top + 1, top + 2, 0x110028, 1 << 24, 1 << 30, math.MaxInt32 - 1, math.MaxInt32}
	for _, r := range mirrored() {
		all = append(all, -r, ^r, math.MinInt32+r, math.MinInt32|r, 0x110000+r, 1<<24+r, 1<<30+r, math.MaxInt32-r)
	}
	return all
}

// oddByChapter tells by its last digit whether the level is no multiple of 2.
func oddByChapter(level int) bool {
	number := strconv.Itoa(level)
	return strings.Contains("13579", number[len(number)-1:])
}

// oneByChapter returns what One is asked for.
func oneByChapter(r rune, level int) rune {
	if mirror := mirrorOf(r); mirror != 0 && oddByChapter(level) {
		return mirror
	}
	return r
}

// codesByChapter returns what Codes is asked for, one for as many as have a level and the others behind.
func codesByChapter(text []rune, levels []int) []rune {
	var codes []rune
	given := min(len(text), len(levels))
	for i, level := range levels[:given] {
		codes = append(codes, oneByChapter(text[i], level))
	}
	return append(codes, text[given:]...)
}

// changesByChapter returns what Changes is asked for, without Codes: the positions with an odd level and a code point whose Mirror is another one.
func changesByChapter(text []rune, levels []int) int {
	count := 0
	for i := range min(len(text), len(levels)) {
		if mirror := mirrorOf(text[i]); mirror != 0 && mirror != text[i] && oddByChapter(levels[i]) {
			count++
		}
	}
	return count
}

// holds checks the calls about the text and the levels against the chapter, and its consequences.
func holds(t *testing.T, text []rune, levels []int) {
	t.Helper()
	codes := Codes(text, levels)
	if want := codesByChapter(text, levels); !slices.Equal(codes, want) {
		t.Fatalf("Codes(%X, %v) = %X, not %X", text, levels, codes, want)
	}
	if got, want := Changes(text, levels), changesByChapter(text, levels); got != want {
		t.Fatalf("Changes(%X, %v) = %d, not %d", text, levels, got, want)
	}
	sound(t, text, levels, codes)
}

// sound checks what P18.1 and P18.2 tell of the codes without saying which ones are mirrored.
func sound(t *testing.T, text []rune, levels []int, codes []rune) {
	t.Helper()
	if len(codes) != len(text) {
		t.Fatalf("Codes(%X, %v) = %X: %d code points", text, levels, codes, len(codes))
	}
	differing := 0
	for i, r := range text {
		if codes[i] != r {
			differing++
		}
		if i >= len(levels) || !oddByChapter(levels[i]) {
			if codes[i] != r {
				t.Fatalf("Codes(%X, %v) = %X: it differs at %d", text, levels, codes, i)
			}
		} else if codes[i] != One(r, levels[i]) {
			t.Fatalf("Codes(%X, %v) = %X: at %d it isn't %X", text, levels, codes, i, One(r, levels[i]))
		}
	}
	if got := Changes(text, levels); got != differing {
		t.Fatalf("Changes(%X, %v) = %d, but %X differs at %d", text, levels, got, codes, differing)
	}
	if twice := Codes(codes, levels); !slices.Equal(twice, text) {
		t.Fatalf("Codes(%X, %v) twice is %X", text, levels, twice)
	}
}

// strangeLevels are numbers below and above the levels that layer 16 gives, odd and even.
func strangeLevels() []int {
	all := []int{math.MinInt, math.MinInt + 1, math.MinInt + 2, math.MinInt + 3, math.MaxInt - 3, math.MaxInt - 2, math.MaxInt - 1, math.MaxInt}
	for power := 1; power < 63; power++ {
		for _, level := range []int{1 << power, -(1 << power)} {
			all = append(all, level-2, level-1, level, level+1, level+2)
		}
	}
	return all
}

// manyLevels are those from -300 to 300, and strange ones.
func manyLevels() []int {
	all := strangeLevels()
	for level := -300; level <= 300; level++ {
		all = append(all, level)
	}
	return all
}

// lists calls visit with each list of at most longest of the given elements.
func lists[T any](longest int, among []T, visit func(list []T)) {
	count := 1
	for size := range longest + 1 {
		for code := range count {
			list := make([]T, size)
			for i := range list {
				list[i] = among[code%len(among)]
				code /= len(among)
			}
			visit(list)
		}
		count *= len(among)
	}
}

// stream returns a function that returns numbers from 0 up to n, the same ones each time.
func stream() func(n int) int {
	state := uint64(1)
	return func(n int) int {
		state = state*6364136223846793005 + 1442695040888963407
		return int(state >> 33 % uint64(n))
	}
}

// some returns a list of n of the given elements.
func some[T any](next func(int) int, n int, among []T) []T {
	list := make([]T, n)
	for i := range list {
		list[i] = among[next(len(among))]
	}
	return list
}

// someText returns n runes, some of which have a Mirror, some of which have none, and a few of which are no code points.
func someText(next func(int) int, n int) []rune {
	text := some(next, n, plain())
	with, without := mirrored(), notCodes()
	for i := range text {
		switch next(5) {
		case 0, 1:
			text[i] = with[next(len(with))]
		case 2:
			text[i] = rune(next(int(top) + 1))
		}
		if next(20) == 0 {
			text[i] = without[next(len(without))]
		}
	}
	return text
}

// spoil writes to all memory of the list, also to the room behind it.
func spoil[T any](list []T, with T) {
	for i := range list[:cap(list)] {
		list[:cap(list)][i] = with
	}
}

// What the tests take from the chapter's table, held against layer 4.
func TestMirrorPairs(t *testing.T) {
	count := 0
	for i := range props.Rows() {
		rows, prop := props.Row(i)
		if prop.Mirror == 0 {
			continue
		}
		count++
		if rows.From != rows.To || mirrorOf(rows.From) != prop.Mirror {
			t.Errorf("row %d, from %X to %X, has the Mirror %X, not %X", i, rows.From, rows.To, prop.Mirror, mirrorOf(rows.From))
		}
	}
	if count != len(mirrorPairs()) {
		t.Errorf("%d rows have a Mirror, not %d", count, len(mirrorPairs()))
	}
	for _, r := range mirrored() {
		if mirrorOf(mirrorOf(r)) != r || mirrorOf(r) == r {
			t.Errorf("the Mirror of %X doesn't lead back", r)
		}
	}
}
