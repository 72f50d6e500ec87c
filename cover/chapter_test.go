package cover

import (
	"math"
	"slices"
	"testing"

	"typecase/api"
	"typecase/font"
)

const (
	// most is the greatest number of elements of a list for which the document promises something (R8).
	most = 1 << 16
	// top is the greatest code point.
	top rune = 0x10FFFF
)

// mappings returns the first mapping of each code, found from the last one to the first.
func mappings(f api.Font) map[rune]int {
	first := map[rune]int{}
	for i := len(f.Maps) - 1; i >= 0; i-- {
		first[f.Maps[i].Code] = f.Maps[i].Glyph
	}
	return first
}

// textByChapter returns what Text and Missing are asked for.
func textByChapter(f api.Font, text []rune) (glyphs, missing []int) {
	first := mappings(f)
	for i, r := range text {
		glyph, mapped := first[r]
		glyphs = append(glyphs, glyph)
		if !mapped {
			missing = append(missing, i)
		}
	}
	return glyphs, missing
}

// indexByChapter returns what Index is asked for: the index before which there is no g.
func indexByChapter(cover []int, g int) (int, bool) {
	for i := len(cover); i > 0; i-- {
		if cover[i-1] == g && !slices.Contains(cover[:i-1], g) {
			return i - 1, true
		}
	}
	return 0, false
}

// infoByChapter returns what the font tells of g, among the indices that there are.
func infoByChapter(f api.Font, g int) api.Info {
	for i, told := range f.Glyphs {
		if i == g {
			return told
		}
	}
	return api.Info{}
}

// codesByChapter returns what Codes is asked for.
func codesByChapter(f api.Font) []rune {
	var codes []rune
	for _, m := range f.Maps {
		codes = append(codes, m.Code)
	}
	return codes
}

// holds checks the calls about a font and a text against the chapter.
func holds(t *testing.T, f api.Font, text []rune) {
	t.Helper()
	glyphs, missing := textByChapter(f, text)
	if got := Text(f, text); !slices.Equal(got, glyphs) {
		t.Fatalf("Text(%v, %X) = %v, not %v", f.Maps, text, got, glyphs)
	}
	if got := Missing(f, text); !slices.Equal(got, missing) {
		t.Fatalf("Missing(%v, %X) = %v, not %v", f.Maps, text, got, missing)
	}
	for i, r := range text {
		if got := Glyph(f, r); got != glyphs[i] {
			t.Fatalf("Glyph(%v, %X) = %d, not %d", f.Maps, r, got, glyphs[i])
		}
	}
}

// parts checks P22.5 for the text, cut at every place.
func parts(t *testing.T, f api.Font, text []rune) {
	t.Helper()
	glyphs, missing := Text(f, text), Missing(f, text)
	for cut := range len(text) + 1 {
		joined := append(Text(f, text[:cut]), Text(f, text[cut:])...)
		if !slices.Equal(joined, glyphs) {
			t.Fatalf("Text of %X is %v, but of its parts, cut at %d, %v: %v", text, glyphs, cut, joined, f.Maps)
		}
		positions := Missing(f, text[:cut])
		for _, i := range Missing(f, text[cut:]) {
			positions = append(positions, i+cut)
		}
		if !slices.Equal(positions, missing) {
			t.Fatalf("Missing of %X is %v, but of its parts, cut at %d, %v: %v", text, missing, cut, positions, f.Maps)
		}
	}
}

// tells checks what is told of g against the chapter.
func tells(t *testing.T, f api.Font, g int) {
	t.Helper()
	want := infoByChapter(f, g)
	if Kind(f, g) != want.Kind || Attach(f, g) != want.Attach || Adv(f, g) != want.Adv {
		t.Fatalf("glyph %d of %d: Kind %d, Attach %d, Adv %d, not %d, %d, %d", g, len(f.Glyphs), Kind(f, g), Attach(f, g), Adv(f, g), want.Kind, want.Attach, want.Adv)
	}
}

// tellsAll checks what is told of each glyph of a font and of numbers beside them, and its Codes.
func tellsAll(t *testing.T, f api.Font) {
	t.Helper()
	for g := -3; g < len(f.Glyphs)+3; g++ {
		tells(t, f, g)
	}
	for _, g := range strangeInts() {
		tells(t, f, g)
	}
	if got, want := Codes(f), codesByChapter(f); !slices.Equal(got, want) {
		t.Fatalf("Codes of %v: %X", f.Maps, got)
	}
}

// rises checks P22.4 for a font that is valid.
func rises(t *testing.T, f api.Font, texts ...[]rune) {
	t.Helper()
	if font.Check(f) != api.OK {
		t.Fatalf("a font that isn't valid: %v", f)
	}
	codes := Codes(f)
	for i, code := range codes {
		if i > 0 && codes[i-1] >= code {
			t.Fatalf("%X stands before %X", codes[i-1], code)
		}
	}
	if got := Missing(f, codes); len(got) != 0 {
		t.Fatalf("those without a mapping are %v of %X", got, codes)
	}
	for _, text := range append(texts, codes) {
		missing, glyphs := Missing(f, text), Text(f, text)
		for i, r := range text {
			if g := glyphs[i]; g < 0 || g >= len(f.Glyphs) {
				t.Fatalf("%X is mapped to %d of %d", r, g, len(f.Glyphs))
			}
			if slices.Contains(missing, i) == slices.Contains(codes, r) {
				t.Fatalf("%X in %X: missing are %v", r, codes, missing)
			}
		}
	}
}

// strangeInts are numbers that are no glyphs of any font, and a few around powers of 2.
func strangeInts() []int {
	all := []int{math.MinInt, math.MinInt + 1, math.MinInt + 2, math.MaxInt - 2, math.MaxInt - 1, math.MaxInt}
	for power := 4; power < 63; power++ {
		all = append(all, 1<<power-1, 1<<power, 1<<power+1, -(1<<power)-1, -(1 << power), -(1<<power)+1)
	}
	return all
}

// strangeRunes are no valid runes.
func strangeRunes() []rune {
	return []rune{
		math.MinInt32, math.MinInt32 + 1, -0x110000, -0x10FFFF, -256, -'a', -2, -1, 0xD800, 0xD801, 0xDBFF, 0xDC00, 0xDFFE, 0xDFFF,
		top + 1, top + 2, 0x110061, 1 << 24, 1<<24 + 'a', 1 << 30, math.MaxInt32 - 1, math.MaxInt32,
	}
}

// plainRunes are valid runes of all sizes.
func plainRunes() []rune {
	return []rune{
		0, 1, '\n', ' ', '0', 'A', 'Z', 'a', 'b', 'z', 0x7F, 0x80, 0xFF, 0x100, 0x301, 0x5D0, 0x5D1, 0x628, 0x7FF, 0x800, 0xE01,
		0x4E00, 0xAC00, 0xD7FF, 0xE000, 0xFFFD, 0xFFFE, 0xFFFF, 0x10000, 0x1F600, 0x20000, 0xE0100, top - 1, top,
	}
}

// lists calls visit with each list of at most longest of the given elements.
func lists[T any](longest int, among []T, visit func(list []T)) {
	count := 1
	for size := range longest + 1 {
		for code := range count {
			list := make([]T, size)
			for i := range list {
				list[i] = among[code%len(among)]
				code /= len(among)
			}
			visit(list)
		}
		count *= len(among)
	}
}

// stream returns a function that returns numbers from 0 up to n, the same ones each time.
func stream() func(n int) int {
	state := uint64(1)
	return func(n int) int {
		state = state*6364136223846793005 + 1442695040888963407
		return int(state >> 33 % uint64(n))
	}
}

// some returns a list of n of the given elements.
func some[T any](next func(int) int, n int, among []T) []T {
	list := make([]T, n)
	for i := range list {
		list[i] = among[next(len(among))]
	}
	return list
}

// indexed returns the list of what made returns for the numbers from 0 up to n.
func indexed[T any](n int, made func(i int) T) []T {
	list := make([]T, n)
	for i := range list {
		list[i] = made(i)
	}
	return list
}

// anyInt returns small numbers and strange ones.
func anyInt(next func(int) int) int {
	if next(4) == 0 {
		return some(next, 1, strangeInts())[0]
	}
	return next(12) - 3
}

// someFont returns a font of at most as many mappings of the given codes, in any order and to anything, with glyphs of any kind: it is hardly ever valid.
func someFont(next func(int) int, longest int, codes []rune) api.Font {
	return api.Font{
		Em: anyInt(next),
		Glyphs: indexed(next(10), func(int) api.Info {
			return api.Info{Adv: anyInt(next), Kind: anyInt(next), Attach: anyInt(next), Carets: some(next, next(3), []int{-1, 0, 5})}
		}),
		Maps: indexed(next(longest+1), func(int) api.Map { return api.Map{Code: codes[next(len(codes))], Glyph: anyInt(next)} }),
	}
}

// validFont returns a valid font with some of the given codes, in increasing order.
func validFont(next func(int) int, codes []rune) api.Font {
	f := api.Font{Em: 1 + next(api.MaxEm)}
	f.Glyphs = indexed(1+next(20), func(int) api.Info {
		return api.Info{Adv: next(2*api.MaxUnit+1) - api.MaxUnit, Kind: next(api.GkMark + 1), Attach: next(256)}
	})
	codes = some(next, next(2*len(codes)+1), codes)
	slices.Sort(codes)
	for _, code := range slices.Compact(codes) {
		f.Maps = append(f.Maps, api.Map{Code: code, Glyph: next(len(f.Glyphs))})
	}
	return f
}

// spoil writes to all memory of the list, also to the room behind it.
func spoil[T any](list []T, with T) {
	for i := range list[:cap(list)] {
		list[:cap(list)][i] = with
	}
}
