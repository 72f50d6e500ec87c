package fallback

import (
	"math"
	"slices"
	"strings"
	"testing"

	"typecase/api"
	"typecase/grapheme"
	"typecase/props"
	"typecase/spans"
)

const (
	// most is the greatest number of elements of a list for which the document promises something (R8).
	most = 1 << 16
	// top is the greatest code point.
	top rune = 0x10FFFF
)

// unseen returns, from the table of layer 4 by hand, the ranges of the code points that need no glyph: for their Cluster class alone, for their bidi class alone, and for both.
func unseen() (byCluster, byBidi, byBoth [][2]rune) {
	byCluster = [][2]rune{{0x09, 0x0D}, {0x1C, 0x1F}, {0x85, 0x85}, {0x61C, 0x61C}, {0x200E, 0x200F}, {0x2028, 0x2029}}
	byBidi = [][2]rune{{0x200C, 0x200C}, {0xE0020, 0xE007F}}
	byBoth = [][2]rune{
		{0, 8}, {0x0E, 0x1B}, {0x7F, 0x84}, {0x86, 0x9F}, {0xAD, 0xAD}, {0x200B, 0x200B}, {0x200D, 0x200D},
		{0x202A, 0x202E}, {0x2060, 0x2060}, {0x2066, 0x2069}, {0xFEFF, 0xFEFF},
	}
	return byCluster, byBidi, byBoth
}

// within tells whether r is in one of the ranges.
func within(ranges [][2]rune, r rune) bool {
	for _, part := range ranges {
		if part[0] <= r && r <= part[1] {
			return true
		}
	}
	return false
}

// needsByChapter is what Needs is asked for.
func needsByChapter(r rune) bool {
	byCluster, byBidi, byBoth := unseen()
	return !within(byCluster, r) && !within(byBidi, r) && !within(byBoth, r)
}

// hasCode tells whether the font has r: the mappings are gone through backward, so that the first one decides.
func hasCode(f api.Font, r rune) bool {
	glyph := 0
	for i := len(f.Maps) - 1; i >= 0; i-- {
		if f.Maps[i].Code == r {
			glyph = f.Maps[i].Glyph
		}
	}
	return glyph != 0
}

// hasByChapter is what Has is asked for.
func hasByChapter(f api.Font, cluster []rune) bool {
	missing := 0
	for _, r := range cluster {
		if needsByChapter(r) && !hasCode(f, r) {
			missing++
		}
	}
	return missing == 0
}

// pickByChapter is what Pick is asked for, and which of the five answers it is.
func pickByChapter(fonts []api.Font, prefer int, cluster []rune, ahead int) (font, answer int) {
	var having []int
	for i, f := range fonts {
		if hasByChapter(f, cluster) {
			having = append(having, i)
		}
	}
	if slices.Contains(having, prefer) {
		return prefer, 1
	}
	if len(having) > 0 {
		return slices.Min(having), 2
	}
	for i, f := range fonts {
		if i == ahead && len(cluster) > 0 && hasCode(f, cluster[0]) {
			return i, 3
		}
	}
	for i := range fonts {
		if i == prefer {
			return i, 4
		}
	}
	return 0, 5
}

// preferred is the Val of the first span that contains position i, or 0.
func preferred(prefer []api.Span, i int) int {
	val := 0
	for k := len(prefer) - 1; k >= 0; k-- {
		if prefer[k].From <= i && prefer[k].To > i {
			val = prefer[k].Val
		}
	}
	return val
}

// valsByChapter returns the font of each code point, and which of the five answers of Pick each cluster got.
func valsByChapter(fonts []api.Font, t []rune, prefer []api.Span) (vals, answers []int) {
	font, answer := -1, 0
	for i := range t {
		if grapheme.Is(t, i) {
			font, answer = pickByChapter(fonts, preferred(prefer, i), t[i:grapheme.Next(t, i)], font)
			answers = append(answers, answer)
		}
		vals = append(vals, font)
	}
	return vals, answers
}

// wholeOf returns the whole spans that give each position its value.
func wholeOf(vals []int) []api.Span {
	var list []api.Span
	for i, val := range vals {
		if i == 0 || vals[i-1] != val {
			list = append(list, api.Span{From: i, Val: val})
		}
		list[len(list)-1].To = i + 1
	}
	return list
}

// picks checks Pick against the chapter, and returns which of the five answers it was.
func picks(t *testing.T, fonts []api.Font, prefer int, cluster []rune, ahead int) int {
	t.Helper()
	want, answer := pickByChapter(fonts, prefer, cluster, ahead)
	if got := Pick(fonts, prefer, cluster, ahead); got != want {
		t.Fatalf("Pick(%v, %d, %X, %d) = %d, not %d", mapsOf(fonts), prefer, cluster, ahead, got, want)
	}
	return answer
}

// hasAsAsked checks Has against the chapter.
func hasAsAsked(t *testing.T, f api.Font, cluster []rune) {
	t.Helper()
	if got, want := Has(f, cluster), hasByChapter(f, cluster); got != want {
		t.Fatalf("Has(%v, %X) = %t", f.Maps, cluster, got)
	}
}

// holds checks Of against the chapter, together with what follows from it, and returns the answers that the clusters got.
func holds(t *testing.T, fonts []api.Font, text []rune, prefer []api.Span) []int {
	t.Helper()
	got := Of(fonts, text, prefer)
	vals, answers := valsByChapter(fonts, text, prefer)
	if want := wholeOf(vals); !slices.Equal(got, want) {
		t.Fatalf("Of(%v, %X, %v) = %v, not %v", mapsOf(fonts), text, prefer, got, want)
	}
	follows(t, fonts, text, prefer, got)
	return answers
}

// follows checks P23.5 and P23.6 for what Of returned.
func follows(t *testing.T, fonts []api.Font, text []rune, prefer, got []api.Span) {
	t.Helper()
	if !spans.Whole(got, len(text)) {
		t.Fatalf("%v is not whole for %d", got, len(text))
	}
	for _, part := range got {
		if !grapheme.Is(text, part.From) || !grapheme.Is(text, part.To) {
			t.Fatalf("%v splits a cluster of %X", got, text)
		}
		if len(fonts) <= 1 && part.Val != 0 || part.Val < 0 || len(fonts) > 0 && part.Val >= len(fonts) {
			t.Fatalf("%v for %d fonts", got, len(fonts))
		}
	}
	for _, c := range grapheme.Cuts(text) {
		cluster, font, wish := text[c.From:c.To], spans.At(got, c.From), preferred(prefer, c.From)
		if slices.ContainsFunc(fonts, func(f api.Font) bool { return hasByChapter(f, cluster) }) && !hasByChapter(fonts[font], cluster) {
			t.Fatalf("%v: font %d has not all of %X, and another one has", mapsOf(fonts), font, cluster)
		}
		if !slices.ContainsFunc(cluster, needsByChapter) && wish >= 0 && wish < len(fonts) && font != wish {
			t.Fatalf("%v: %X needs no glyph and is in font %d, not %d", mapsOf(fonts), cluster, font, wish)
		}
	}
}

// mapsOf returns the mappings of the fonts.
func mapsOf(fonts []api.Font) [][]api.Map {
	var list [][]api.Map
	for _, f := range fonts {
		list = append(list, f.Maps)
	}
	return list
}

// fontOf returns a font that has the code points.
func fontOf(codes ...rune) api.Font {
	f := api.Font{Em: 1000, Glyphs: make([]api.Info, 1)}
	for _, code := range codes {
		f.Maps = append(f.Maps, api.Map{Code: code, Glyph: len(f.Glyphs)})
		f.Glyphs = append(f.Glyphs, api.Info{Adv: 500, Kind: api.GkBase})
	}
	return f
}

// sign returns the code point that stands for a letter of the texts written by hand: most stand for themselves.
func sign(letter rune) rune {
	switch letter {
	case 'r':
		return '\r'
	case 'n':
		return '\n'
	case '\'': // an Extend
		return 0x301
	case 'z': // ZWJ: it needs no glyph
		return 0x200D
	case 'o': // an Extend that needs no glyph for its bidi class
		return 0x200C
	case 's': // a Control: the soft hyphen
		return 0xAD
	case 'i': // a Control: LRI
		return 0x2066
	case 'F': // a Regional
		return 0x1F1E6
	case 'P': // a Prepend
		return 0x600
	case '*': // a Picture
		return 0x1F466
	case '?': // no code point
		return -1
	case '!': // a surrogate
		return 0xD800
	}
	return letter
}

// spell returns the text that is written with one letter for each code point; a dot is nothing.
func spell(letters string) []rune {
	var text []rune
	for _, letter := range strings.ReplaceAll(letters, ".", "") {
		text = append(text, sign(letter))
	}
	return text
}

// fontsOf returns the fonts whose code points are written as words.
func fontsOf(words string) []api.Font {
	var fonts []api.Font
	for _, word := range strings.Fields(words) {
		fonts = append(fonts, fontOf(spell(word)...))
	}
	return fonts
}

// digits returns the numbers that are written as digits, with - for None.
func digits(written string) []int {
	var list []int
	for _, digit := range written {
		if digit == '-' {
			list = append(list, api.None)
		} else {
			list = append(list, int(digit-'0'))
		}
	}
	return list
}

// notCodes are no valid runes.
func notCodes() []rune {
	return []rune{
		math.MinInt32, math.MinInt32 + 1, -0x110000, -0x10FFFF, -0x200D, -256, -13, -10, -2, -1, 0xD800, 0xD801, 0xDBFF, 0xDC00, 0xDFFE, 0xDFFF,
		top + 1, top + 2, 0x11000A, 0x11200D, 1 << 24, 1<<24 + 10, 1 << 30, math.MaxInt32 - 1, math.MaxInt32,
	}
}

// allSigns returns a code point for each Cluster class and each bidi class, and some that are none.
func allSigns() []rune {
	seen := map[[2]int]bool{}
	signs := []rune{-1, 0xD800, top + 1, 'a', 'b', 'c'}
	for i := range props.Rows() {
		where, p := props.Row(i)
		if kind := [2]int{p.Cluster, p.Bidi}; !seen[kind] {
			seen[kind] = true
			signs = append(signs, where.From)
		}
	}
	return append(signs, 0xAC01, 0x1F1E7, 0x1F467, 0x302)
}

// farInts are numbers that are no indices of fonts.
func farInts() []int {
	return []int{math.MinInt, math.MinInt + 1, -(1 << 32), -(1 << 31), -3, -2, -1, 1 << 16, 1 << 31, 1 << 32, 1<<32 + 1, math.MaxInt - 1, math.MaxInt}
}

// lists calls visit with each list of at most longest of the given elements.
func lists[T any](longest int, among []T, visit func(list []T)) {
	count := 1
	for size := range longest + 1 {
		for code := range count {
			list := make([]T, size)
			for i := range list {
				list[i] = among[code%len(among)]
				code /= len(among)
			}
			visit(list)
		}
		count *= len(among)
	}
}

// stream returns a function that returns numbers from 0 up to n, the same ones each time.
func stream() func(n int) int {
	state := uint64(1)
	return func(n int) int {
		state = state*6364136223846793005 + 1442695040888963407
		return int(state >> 33 % uint64(n))
	}
}

// some returns a list of n of the given elements.
func some[T any](next func(int) int, n int, among []T) []T {
	list := make([]T, n)
	for i := range list {
		list[i] = among[next(len(among))]
	}
	return list
}

// someFont returns a font of some of the codes, in any order, some of them more than once, to glyphs that it has or not and to the missing one.
func someFont(next func(int) int, codes []rune) api.Font {
	f := api.Font{Em: 1000, Glyphs: make([]api.Info, next(4))}
	for range next(2*len(codes) + 1) {
		f.Maps = append(f.Maps, api.Map{Code: codes[next(len(codes))], Glyph: some(next, 1, []int{0, 1, 1, 2, 3, 9, -1, math.MaxInt, math.MinInt})[0]})
	}
	return f
}

// someFonts returns up to n fonts.
func someFonts(next func(int) int, n int, codes []rune) []api.Font {
	fonts := make([]api.Font, next(n+1))
	for i := range fonts {
		fonts[i] = someFont(next, codes)
	}
	return fonts
}

// someSpans returns spans for a text of n code points and some fonts: whole ones, or any.
func someSpans(next func(int) int, n, fonts int) []api.Span {
	val := func() int {
		if next(8) == 0 {
			return farInts()[next(len(farInts()))]
		}
		return next(fonts+2) - 1
	}
	var list []api.Span
	for range next(8) {
		from := next(n+5) - 2
		list = append(list, api.Span{From: from, To: from + next(8) - 2, Val: val()})
	}
	switch next(3) {
	case 0:
		return spans.Norm(list, n)
	case 1:
		list = append(list, api.Span{From: some(next, 1, farInts())[0], To: some(next, 1, farInts())[0], Val: val()})
	}
	return list
}

// roomy returns a copy of the list with more elements in the memory behind it.
func roomy[T any](list []T, behind ...T) []T {
	return slices.Concat(list, behind, behind)[:len(list)]
}

// whole returns a copy of all memory of the list, also of the room behind it.
func whole[T any](list []T) []T { return slices.Clone(list[:cap(list)]) }

// spoil writes to all memory of the list, also to the room behind it.
func spoil[T any](list []T, with T) {
	for i := range list[:cap(list)] {
		list[:cap(list)][i] = with
	}
}
