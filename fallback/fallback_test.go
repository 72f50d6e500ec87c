package fallback

import (
	"math"
	"slices"
	"strings"
	"testing"

	"typecase/api"
	"typecase/font"
	"typecase/grapheme"
	"typecase/props"
	"typecase/spans"
)

func TestP23_1ByHand(t *testing.T) {
	for _, c := range []struct {
		codes []rune
		want  bool
	}{
		{[]rune{0, 1, 8, 9, 10, 11, 12, 13, 14, 0x1B, 0x1C, 0x1E, 0x1F, 0x7F, 0x84, 0x85, 0x86, 0x9F, 0xAD, 0x61C}, false},
		{[]rune{0x200B, 0x200C, 0x200D, 0x200E, 0x200F, 0x2028, 0x2029, 0x202A, 0x202B, 0x202C, 0x202D, 0x202E, 0x2060}, false},
		{[]rune{0x2066, 0x2067, 0x2068, 0x2069, 0xFEFF, 0xE0020, 0xE0041, 0xE007F}, false},
		{[]rune{' ', '!', '0', 'A', 'Z', 'a', 'z', '~', 0xA0, 0xAC, 0xAE, 0x24F, 0x250, 0x2FF, 0x300, 0x301, 0x36F, 0x370, 0x5D0, 0x600, 0x605, 0x61B, 0x61D, 0x61F, 0x627, 0x628, 0x640, 0x64B, 0x660, 0x6DD}, true},
		{[]rune{0x903, 0x93E, 0xE33, 0x1100, 0x1160, 0x11A8, 0x2000, 0x200A, 0x2010, 0x2027, 0x202F, 0x205F, 0x2061, 0x2065, 0x206A, 0x20D0, 0x2600, 0x3000, 0x4E00, 0xAC00, 0xAC01, 0xD7A3}, true},
		{[]rune{0xFE0F, 0xFEFE, 0xFF00, 0xFFFC, 0x1F1E6, 0x1F1FF, 0x1F3FB, 0x1F466, 0x1F600, 0x20000, 0xE001F, 0xE0080, 0xE0100, 0xE01EF, 0xF0000, top}, true},
	} {
		for _, r := range c.codes {
			if Needs(r) != c.want {
				t.Errorf("Needs(%X) = %t", r, !c.want)
			}
		}
	}
}

func TestP23_1EveryCodePoint(t *testing.T) {
	for r := rune(-0x20000); r <= top+0x20000; r++ {
		if Needs(r) != needsByChapter(r) {
			t.Fatalf("Needs(%X) = %t", r, Needs(r))
		}
	}
}

func TestP23_1Rows(t *testing.T) {
	for i := range props.Rows() {
		where, _ := props.Row(i)
		for _, r := range []rune{where.From - 1, where.From, (where.From + where.To) / 2, where.To, where.To + 1} {
			if Needs(r) != needsByChapter(r) {
				t.Errorf("row %d: Needs(%X) = %t", i, r, Needs(r))
			}
		}
	}
}

// What the classes are that need no glyph, by their numbers.
func TestP23_1Classes(t *testing.T) {
	outCluster, outBidi := []int{1, 2, 3, 5}, []int{10, 15, 16, 17, 18, 19, 20, 21, 22, 23}
	seenCluster, seenBidi := map[int]bool{}, map[int]bool{}
	for r := rune(-2); r <= top+2; r++ {
		p := props.Of(r)
		seenCluster[p.Cluster], seenBidi[p.Bidi] = true, true
		if want := !slices.Contains(outCluster, p.Cluster) && !slices.Contains(outBidi, p.Bidi); Needs(r) != want {
			t.Fatalf("Needs(%X), of the classes %d and %d, is %t", r, p.Cluster, p.Bidi, Needs(r))
		}
	}
	for class := range 15 {
		if !seenCluster[class] {
			t.Errorf("no code point is of the Cluster class %d", class)
		}
	}
	for class := 1; class <= 23; class++ {
		if !seenBidi[class] {
			t.Errorf("no code point is of the bidi class %d", class)
		}
	}
	if seenBidi[24] || seenBidi[0] {
		t.Error("there are more bidi classes")
	}
}

// The lists written by hand hold what they say: code points that are out by one class alone, and by both.
func TestP23_1OneClassAlone(t *testing.T) {
	byCluster, byBidi, byBoth := unseen()
	for r := range top + 1 {
		p := props.Of(r)
		cluster := p.Cluster == api.ClCR || p.Cluster == api.ClLF || p.Cluster == api.ClControl || p.Cluster == api.ClZWJ
		bidi := p.Bidi == api.BidiBN || p.Bidi >= api.BidiLRE
		if within(byCluster, r) != (cluster && !bidi) || within(byBidi, r) != (bidi && !cluster) || within(byBoth, r) != (cluster && bidi) {
			t.Errorf("%X is of the classes %d and %d", r, p.Cluster, p.Bidi)
		}
	}
}

func TestP23_1NotCodePoints(t *testing.T) {
	for _, r := range notCodes() {
		if !Needs(r) {
			t.Errorf("Needs(%d) is false", r)
		}
	}
	for r := rune(0xD800); r <= 0xDFFF; r++ {
		if !Needs(r) {
			t.Errorf("Needs(%X) is false", r)
		}
	}
}

func TestP23_2ByHand(t *testing.T) {
	for _, c := range []struct {
		font, cluster string
		want          bool
	}{
		// Nothing is needed.
		{".", "", true}, {"a", "", true}, {".", "z", true}, {".", "r", true}, {".", "n", true}, {".", "rn", true}, {".", "s", true}, {".", "i", true}, {".", "o", true}, {".", "zozo", true}, {"a", "z", true}, {"z", "z", true}, {"a", "rnsizo", true},
		{"a", "a", true}, {"a", "b", false}, {".", "a", false}, {"a", "A", false}, {"ab", "a", true}, {"ab", "b", true}, {"ba", "b", true},
		// One that needs a glyph and one that doesn't.
		{"a", "az", true}, {"a", "za", true}, {"a", "ao", true}, {"a", "oa", true}, {"a", "as", true}, {"a", "na", true}, {"z", "az", false}, {"z", "za", false}, {"o", "ao", false}, {".", "az", false}, {".", "za", false}, {"az", "az", true}, {"az", "za", true}, {"b", "az", false},
		// Of several the first, an inner one, the last one isn't there.
		{"abc", "abc", true}, {"bc", "abc", false}, {"ac", "abc", false}, {"ab", "abc", false}, {"a", "abc", false}, {"b", "abc", false}, {"c", "abc", false}, {"cba", "abc", true}, {"xabcy", "abc", true}, {"abc", "abcd", false}, {"abc", "dabc", false},
		{"a'", "a'", true}, {"a", "a'", false}, {"'", "a'", false}, {"a'", "a'z'o'", true}, {"az", "az'", false}, {"*", "*z*", true}, {".", "*z*", false}, {"z", "*z*", false}, {"F", "FF", true}, {"P", "Pa", false}, {"a", "Pa", false}, {"Pa", "Pa", true}, {"aP", "Pa", true},
		{"a", "aaaa", true}, {"a", "aaba", false}, {"a", "zzaz", true}, {"z", "zz'z", false}, {"'", "zz'z", true},
		// No code points.
		{"?", "?", true}, {"a", "?", false}, {"!", "!", true}, {"a", "!", false}, {"?!", "!?", true}, {"?", "!?", false},
	} {
		f, cluster := fontOf(spell(c.font)...), spell(c.cluster)
		if got := Has(f, cluster); got != c.want {
			t.Errorf("the font of %q and %q: %t", c.font, c.cluster, got)
		}
		hasAsAsked(t, f, cluster)
	}
}

// A font has a code point if its first mapping is not to glyph 0, whatever else it is to.
func TestP23_2Glyphs(t *testing.T) {
	for _, c := range []struct {
		maps []api.Map
		want bool
	}{
		{nil, false}, {[]api.Map{}, false}, {[]api.Map{{Code: 'a', Glyph: 1}}, true}, {[]api.Map{{Code: 'b', Glyph: 1}}, false}, {[]api.Map{{Code: 'a', Glyph: 0}}, false}, {[]api.Map{{Code: 'a'}, {Code: 'b', Glyph: 1}}, false},
		{[]api.Map{{Code: 'a', Glyph: 2}}, true}, {[]api.Map{{Code: 'a', Glyph: 3}}, true}, {[]api.Map{{Code: 'a', Glyph: 1 << 16}}, true}, {[]api.Map{{Code: 'a', Glyph: 1 << 32}}, true}, {[]api.Map{{Code: 'a', Glyph: math.MaxInt}}, true},
		{[]api.Map{{Code: 'a', Glyph: -1}}, true}, {[]api.Map{{Code: 'a', Glyph: -2}}, true}, {[]api.Map{{Code: 'a', Glyph: math.MinInt}}, true},
		{[]api.Map{{Code: 'a', Glyph: 1}, {Code: 'a', Glyph: 0}}, true}, {[]api.Map{{Code: 'a', Glyph: 0}, {Code: 'a', Glyph: 1}}, false}, {[]api.Map{{Code: 'b', Glyph: 1}, {Code: 'a', Glyph: 0}, {Code: 'a', Glyph: 1}}, false}, {[]api.Map{{Code: 'a', Glyph: 2}, {Code: 'b', Glyph: 0}, {Code: 'a', Glyph: 0}}, true},
		{[]api.Map{{Code: 'a', Glyph: 0}, {Code: 'a', Glyph: 1}, {Code: 'a', Glyph: 2}}, false}, {[]api.Map{{Code: 'z', Glyph: 0}, {Code: 'a', Glyph: 1}, {Code: 'a', Glyph: 0}}, true}, {[]api.Map{{Code: 'z', Glyph: 1}, {Code: 'a', Glyph: 0}, {Code: 'a', Glyph: 1}}, false},
	} {
		for _, glyphs := range [][]api.Info{nil, make([]api.Info, 1), make([]api.Info, 2), make([]api.Info, 3)} {
			f := api.Font{Em: 1000, Glyphs: glyphs, Maps: c.maps}
			if got := Has(f, []rune{'a'}); got != c.want {
				t.Errorf("%v with %d glyphs: %t", c.maps, len(glyphs), got)
			}
			if got := Has(f, []rune{0x200D, 'a', 0x200D}); got != c.want {
				t.Errorf("%v with %d glyphs and ZWJ: %t", c.maps, len(glyphs), got)
			}
			for _, cluster := range []string{"", "a", "b", "ab", "ba", "z", "az", "aa"} {
				hasAsAsked(t, f, spell(cluster))
			}
		}
	}
}

// A mapping of a code point that needs no glyph matters as little as that it isn't there.
func TestP23_2NeedsNone(t *testing.T) {
	for r := range rune(0x3000) {
		for _, f := range []api.Font{{}, fontOf('a'), fontOf('a', r), {Maps: []api.Map{{Code: 'a', Glyph: 1}, {Code: r, Glyph: 0}}}} {
			hasAsAsked(t, f, []rune{r})
			hasAsAsked(t, f, []rune{'a', r})
		}
	}
	for _, r := range slices.Concat(notCodes(), allSigns()) {
		hasAsAsked(t, api.Font{}, []rune{r})
		hasAsAsked(t, fontOf('a'), []rune{r, 'a'})
		hasAsAsked(t, fontOf('a', r), []rune{r, 'a'})
	}
}

func TestP23_2AllSmall(t *testing.T) {
	codes := spell("ab'z")
	lists(3, codes, func(has []rune) {
		f := fontOf(has...)
		lists(4, codes, func(cluster []rune) { hasAsAsked(t, f, cluster) })
	})
}

func TestP23_2Some(t *testing.T) {
	next := stream()
	signs := slices.Concat(allSigns(), notCodes())
	for range 20000 {
		few := some(next, 1+next(6), signs)
		hasAsAsked(t, someFont(next, few), some(next, next(7), append(few, 'q')))
	}
}

// pickRow is a call of Pick written by hand, what it returns, and which of the five answers that is.
type pickRow struct {
	fonts        string
	prefer       int
	cluster      string
	ahead        int
	want, answer int
}

func checkPicks(t *testing.T, rows []pickRow) {
	t.Helper()
	for _, row := range rows {
		fonts, cluster := fontsOf(row.fonts), spell(row.cluster)
		if got := Pick(fonts, row.prefer, cluster, row.ahead); got != row.want {
			t.Errorf("%v: Pick is %d", row, got)
		}
		if answer := picks(t, fonts, row.prefer, cluster, row.ahead); answer != row.answer {
			t.Errorf("%v: it is answer %d", row, answer)
		}
	}
}

// The first answer: prefer has the cluster, also where an earlier font has it, and whatever is ahead.
func TestP23_3Prefer(t *testing.T) {
	checkPicks(t, []pickRow{
		{"a", 0, "a", -1, 0, 1}, {"a", 0, "a", 0, 0, 1}, {"a a", 1, "a", -1, 1, 1}, {"a a", 1, "a", 0, 1, 1}, {"a a a", 1, "a", 2, 1, 1}, {"a a a", 2, "a", 0, 2, 1}, {"a a a", 0, "a", 2, 0, 1}, {"b a b", 1, "a", 0, 1, 1}, {"b b a", 2, "a", 1, 2, 1}, {"a b b", 0, "a", 1, 0, 1},
		{"a a'", 1, "a'", 0, 1, 1}, {"a' a'", 1, "a'", 0, 1, 1}, {"a az", 0, "az", 1, 0, 1}, {". a", 0, "z", 1, 0, 1}, {"a .", 1, "rn", 0, 1, 1}, {"a z .", 2, "z", 1, 2, 1}, {"a b", 1, "", 0, 1, 1}, {". .", 1, "", -1, 1, 1}, {"a", 0, "", 5, 0, 1}, {"? a ?", 2, "?", 0, 2, 1},
	})
}

// The second answer: prefer isn't there or hasn't the cluster, and some font has it.
func TestP23_3First(t *testing.T) {
	checkPicks(t, []pickRow{
		{"a b", 0, "b", -1, 1, 2}, {"a b", 0, "b", 0, 1, 2}, {"a b", 1, "a", 1, 0, 2}, {"a b c", 0, "c", 1, 2, 2}, {"a b c", 0, "b", 2, 1, 2}, {"a b c", 2, "b", 0, 1, 2}, {"a b c", 1, "a", 2, 0, 2}, {"a b b", 0, "b", 2, 1, 2}, {"a b b b", 0, "b", 3, 1, 2}, {"b a b", 1, "b", 2, 0, 2}, {"a a a a b", 1, "b", 1, 4, 2},
		{"a", -1, "a", -1, 0, 2}, {"a", 1, "a", -1, 0, 2}, {"a a", 2, "a", 1, 0, 2}, {"a a", -1, "a", 1, 0, 2}, {"a a", -2, "a", 1, 0, 2}, {"b a", 2, "a", 0, 1, 2}, {"b a", -1, "a", 0, 1, 2}, {"b a", math.MaxInt, "a", 0, 1, 2}, {"b a", math.MinInt, "a", 0, 1, 2}, {"b a a", 3, "a", 2, 1, 2}, {"b a a", 1 << 32, "a", 2, 1, 2},
		// The font ahead has the first code point, and yet another one has all.
		{"a a'", 0, "a'", 0, 1, 2}, {"a a'", -1, "a'", 0, 1, 2}, {"b a a'", 0, "a'", 1, 2, 2}, {"a ' a'", 1, "a'", 0, 2, 2}, {"Pa a P", 2, "Pa", 2, 0, 2},
		// Nothing is needed, so that the first font has it.
		{". a", 2, "z", 1, 0, 2}, {"a z", -1, "z", 1, 0, 2}, {"a b", 7, "", 1, 0, 2}, {"a b", -1, "", -1, 0, 2}, {"a i", -1, "ia", 1, 0, 2}, {".", -5, "rn", 0, 0, 2},
	})
}

// The third answer: no font has the cluster, and that of the one ahead has the first code point.
func TestP23_3Ahead(t *testing.T) {
	checkPicks(t, []pickRow{
		{"a", 0, "a'", 0, 0, 3}, {"b a", 0, "a'", 1, 1, 3}, {"a a", 0, "a'", 1, 1, 3}, {"a a", 1, "a'", 0, 0, 3}, {"a a a", 0, "a'", 1, 1, 3}, {"a a a", 0, "a'", 2, 2, 3}, {"a b", -1, "a'", 0, 0, 3}, {"b a", 2, "a'", 1, 1, 3}, {"b a", math.MinInt, "a'", 1, 1, 3}, {"' a", 0, "a'", 1, 1, 3}, {"b P", 0, "Pa", 1, 1, 3}, {"b ?", 0, "?a", 1, 1, 3},
		// The first code point needs no glyph, but that font has it.
		{"a z", 0, "z'", 1, 1, 3}, {"z a", 1, "z'", 0, 0, 3}, {"a zb", 0, "z'", 1, 1, 3}, {"a zo", 0, "o'", 1, 1, 3}, {"b i", 0, "ia", 1, 1, 3},
		// It is the font of answer 4, too.
		{"a b", 0, "a'", 0, 0, 3}, {"b a", 1, "a'", 1, 1, 3},
	})
}

// The fourth answer: that of the one ahead hasn't the first code point either, or isn't there.
func TestP23_3Stay(t *testing.T) {
	checkPicks(t, []pickRow{
		{"a b", 0, "x", 1, 0, 4}, {"a b", 1, "x", 0, 1, 4}, {"a b", 1, "x", -1, 1, 4}, {"a b", 1, "x", 2, 1, 4}, {"a b c", 2, "x", 1, 2, 4}, {"a b c", 1, "x", 0, 1, 4}, {"a b c", 0, "x", 2, 0, 4}, {"a", 0, "x", 0, 0, 4}, {".", 0, "x", 0, 0, 4}, {". .", 1, "x", 0, 1, 4},
		// The font ahead has the second code point alone.
		{"b '", 0, "a'", 1, 0, 4}, {"' b", 1, "a'", 0, 1, 4}, {"b ' b", 2, "a'", 1, 2, 4}, {"b a", 0, "Pa", 1, 0, 4}, {"b c '", 1, "a'b", 2, 1, 4}, {"b z", 0, "a'z", 1, 0, 4},
		// It is no index, though another font has the first code point.
		{"b a", 0, "a'", -1, 0, 4}, {"b a", 0, "a'", 2, 0, 4}, {"b a", 0, "a'", -2, 0, 4}, {"b a", 0, "a'", math.MaxInt, 0, 4}, {"b a", 0, "a'", math.MinInt, 0, 4}, {"a b", 1, "a'", -1, 1, 4}, {"a b", 1, "a'", 2, 1, 4}, {"a b", 1, "a'", 1 << 32, 1, 4},
		// The first code point needs no glyph, and that font hasn't it; the preferred one has it or not.
		{"a b", 1, "z'", 0, 1, 4}, {"a z", 1, "z'", 0, 1, 4}, {"z a", 1, "z'", 1, 1, 4}, {"a b z", 1, "z'", 0, 1, 4},
	})
}

// The fifth answer: 0, also without fonts.
func TestP23_3Zero(t *testing.T) {
	checkPicks(t, []pickRow{
		{"a b", 2, "x", 1, 0, 5}, {"a b", -1, "x", 1, 0, 5}, {"a b", -2, "x", -1, 0, 5}, {"a b", math.MaxInt, "x", 2, 0, 5}, {"a b", math.MinInt, "x", math.MinInt, 0, 5}, {"b '", 2, "a'", 1, 0, 5}, {"b a", -1, "a'", 2, 0, 5}, {"b a", 2, "a'", -1, 0, 5}, {"a b", 1 << 32, "z'", 1<<32 + 1, 0, 5},
		{"", 0, "a", 0, 0, 5}, {"", 0, "", 0, 0, 5}, {"", 1, "", 1, 0, 5}, {"", -1, "z", -1, 0, 5}, {"", 0, "z", 0, 0, 5}, {"", math.MaxInt, "a'", math.MinInt, 0, 5}, {"", math.MinInt, "", math.MaxInt, 0, 5},
	})
	for _, fonts := range [][]api.Font{nil, {}} {
		for _, cluster := range [][]rune{nil, {}, {'a'}, {0x200D}} {
			for _, n := range farInts() {
				if Pick(fonts, n, cluster, 0) != 0 || Pick(fonts, 0, cluster, n) != 0 || Pick(fonts, n, cluster, n) != 0 {
					t.Errorf("Pick of no fonts, %X and %d is not 0", cluster, n)
				}
			}
		}
	}
}

// All small choices of fonts, clusters, prefer and ahead.
func TestP23_3AllSmall(t *testing.T) {
	var answers [6]int
	lists(3, fontsOf(". a ' a' z az'"), func(fonts []api.Font) {
		lists(3, spell("a'z"), func(cluster []rune) {
			for prefer := -2; prefer <= len(fonts)+1; prefer++ {
				for ahead := -2; ahead <= len(fonts)+1; ahead++ {
					answers[picks(t, fonts, prefer, cluster, ahead)]++
				}
			}
		})
	})
	for answer, count := range answers[1:] {
		if count < 1000 {
			t.Errorf("answer %d was given %d times", answer+1, count)
		}
	}
}

func TestP23_3FarIndices(t *testing.T) {
	for _, far := range farInts() {
		lists(2, fontsOf(". a a'"), func(fonts []api.Font) {
			lists(2, spell("a'z"), func(cluster []rune) {
				for near := -1; near <= 2; near++ {
					picks(t, fonts, far, cluster, near)
					picks(t, fonts, near, cluster, far)
				}
				picks(t, fonts, far, cluster, far)
			})
		})
	}
}

func TestP23_3Some(t *testing.T) {
	next := stream()
	signs := slices.Concat(allSigns(), notCodes())
	var answers [6]int
	for range 60000 {
		few := some(next, 1+next(5), signs)
		fonts := someFonts(next, 6, few)
		answers[picks(t, fonts, next(len(fonts)+3)-2, some(next, next(5), append(few, 'q')), next(len(fonts)+3)-2)]++
	}
	for answer, count := range answers[1:] {
		if count < 1000 {
			t.Errorf("answer %d was given %d times", answer+1, count)
		}
	}
}

// ofRow is a call of Of written by hand: the fonts, the text, a preferred font as a digit for each code point (or nothing), and the font of each code point.
type ofRow struct{ fonts, text, prefer, want string }

func checkOf(t *testing.T, rows []ofRow) {
	t.Helper()
	for _, row := range rows {
		fonts, text, prefer := fontsOf(row.fonts), spell(row.text), wholeOf(digits(row.prefer))
		if got := Of(fonts, text, prefer); !slices.Equal(got, wholeOf(digits(row.want))) {
			t.Errorf("%v: %v", row, got)
		}
		holds(t, fonts, text, prefer)
	}
}

func TestP23_4ByHand(t *testing.T) {
	checkOf(t, []ofRow{
		{"", "", "", ""}, {"a", "", "", ""}, {"a b", "", "", ""}, {"a", "a", "", "0"}, {"a", "b", "", "0"}, {"a b", "a", "", "0"}, {"a b", "b", "", "1"}, {"a b", "x", "", "0"}, {"a b", "x", "1", "1"}, {"a b", "a", "1", "0"}, {"a a", "a", "1", "1"}, {"", "a", "", "0"}, {"", "ab", "01", "00"}, {"", "a'b", "555", "000"},
		{"a b", "ab", "", "01"}, {"a b", "ba", "", "10"}, {"a b", "aabba", "", "00110"}, {"a b", "aabba", "11111", "00110"}, {"a b", "abx", "", "010"}, {"a b", "bxa", "", "100"}, {"a b", "bxa", "111", "110"}, {"a b c", "abcabc", "", "012012"}, {"a b c", "cxbxax", "121212", "221202"},
		{"ab b", "ab", "11", "01"}, {"ab b", "abab", "1111", "0101"}, {"ab ab", "abab", "0110", "0110"}, {"ab ab", "abab", "1111", "1111"}, {"ab ab", "abab", "", "0000"}, {"ab bc cd", "abcd", "", "0012"}, {"ab bc cd", "abcd", "2222", "0022"}, {"ab bc cd", "abcd", "1111", "0112"},
		// Preferred fonts that aren't there.
		{"a b", "ab", "--", "01"}, {"a b", "abx", "222", "010"}, {"a b", "xx", "7-", "00"}, {"x x", "xx", "2-", "00"}, {". x", "xx", "2-", "11"},
		// Clusters of several code points.
		{"a b", "brna", "1111", "1110"}, {"a b", "brna", "", "1000"}, {"a b", "rnrn", "0011", "0011"}, {"a b", "nr", "01", "01"}, {"a rn", "rn", "", "00"}, {"a a'", "aa'a", "", "0110"}, {"a a'", "aa'a", "1111", "1111"}, {"a a' '", "'aa''", "", "10111"}, {"a ' '", "'a", "", "10"}, {"a '", "'a'", "", "100"},
		{"a F", "FFFa", "", "1110"}, {"a F .", "FFFFFa", "222222", "111110"}, {"F F", "FFFF", "0011", "0011"}, {"F F", "FFFF", "0110", "0011"}, {"F F", "FFFF", "0100", "0000"}, {"a *", "*z*a", "", "1110"}, {"a *z", "*z*'a", "", "00000"}, {"a *'", "*'z*a", "", "11110"}, {"a * '", "*z'*a", "", "00010"},
		{"a Pa P", "Pa", "", "11"}, {"a P", "Pa", "", "00"}, {"a Pa", "PaaPa", "", "11011"}, {"a Pb bP", "PPba", "", "1110"},
		{"a .", "azsa", "1111", "0010"}, {"a .", "aoia", "", "0000"}, {"a . .", "sia", "120", "120"}, {"a .", "asa", "010", "010"},
		// Code points that are none.
		{"a ?", "?a", "", "10"}, {"a !", "!a!", "", "101"}, {"a ?!", "!?a?", "", "1101"}, {"? !", "?!?!", "1111", "0101"}, {"a", "?!", "", "00"}, {"a a", "?!", "10", "10"}, {"? ?'", "?'?", "", "110"},
	})
}

// The font ahead: none at first, then that of the cluster before, from cluster to cluster.
func TestP23_4Ahead(t *testing.T) {
	checkOf(t, []ofRow{
		{"a bx", "bx'", "", "111"}, {"a bx", "ax'", "", "000"}, {"a bx", "bx'x'", "", "11111"}, {"a bxy", "bx'y'x'", "", "1111111"}, {"a bx c", "bx'cx'", "", "111200"}, {"a bx cx", "bx'cx'bx'", "", "111222111"}, {"a bx cx", "bx'cx'ax'", "", "111222000"}, {"a bx", "bay'bx'", "", "1000111"}, {"a bx", "bx'ax'bx'", "", "111000111"}, {"a bx", "by'x'", "", "10000"},
		// At the beginning there is none: not font 0, and not that of the preferred one either.
		{"x b", "x'", "11", "11"}, {"x b", "x'x'", "1111", "1111"}, {"x b", "x'", "--", "00"}, {"b x", "x'", "00", "00"}, {"b x", "x'", "--", "00"}, {"x x", "x'", "11", "11"}, {"x x", "x'x'", "1100", "1111"}, {"x x", "x'x'x'", "110000", "111111"}, {"x x", "x'x'y'x'", "11000000", "11110000"},
		// A first code point that needs no glyph.
		{"a z", "nz'", "100", "111"}, {"a b", "nz'", "100", "100"}, {"a z", "nz'", "", "000"}, {"a z", "z'", "", "00"}, {"a z", "z'", "11", "11"}, {"z a", "nz'", "011", "000"}, {"z a", "nz'", "111", "111"}, {"z a", "nz'", "100", "100"},
		// One ahead that needs no glyph is in the preferred font, and is ahead all the same.
		{"a x", "sx'", "100", "111"}, {"a x", "rnx'", "1100", "1111"}, {"a x", "rnx'", "", "0000"}, {"a x", "asx'x'", "000000", "000000"}, {"a x", "asx'x'", "010000", "011111"},
		{"a P bP", "bPa", "", "222"}, {"a P b", "bPa", "", "200"}, {"b P", "Pa", "", "00"}, {"b PF", "FFPa", "", "1111"}, {"b FFb", "FFF'", "", "1111"}, {"b ' F", "FFF'", "", "2222"}, {"b ' F", "'F'", "", "100"},
	})
}

// However many fonts there are, none is ahead of the first cluster.
func TestP23_4NoneAhead(t *testing.T) {
	for k := range 64 {
		fonts := fontsOf(strings.Repeat("a ", 64))
		fonts[k] = fontOf('x')
		for _, wish := range []int{api.None, 0, 63, 64} {
			prefer := []api.Span{{From: 0, To: 4, Val: wish}}
			want := 0
			if wish == 63 {
				want = 63
			}
			if got := Of(fonts, spell("x'x'"), prefer); !slices.Equal(got, []api.Span{{From: 0, To: 4, Val: want}}) {
				t.Errorf("font %d has the first code point, %d is preferred: %v", k, wish, got)
			}
			holds(t, fonts, spell("x'x'"), prefer)
		}
	}
}

// Spans that are whole, and all others: the first one that contains the first code point decides, and no one is as one of value 0.
func TestP23_4Prefer(t *testing.T) {
	for _, c := range []struct {
		fonts, text string
		prefer      []api.Span
		want        string
	}{
		{"ab ab", "abab", nil, "0000"}, {"ab ab", "abab", []api.Span{}, "0000"}, {"ab ab", "abab", []api.Span{{From: 0, To: 4, Val: 1}}, "1111"}, {"ab ab", "abab", []api.Span{{From: 0, To: 2, Val: 1}, {From: 2, To: 4}}, "1100"},
		// Not sorted, overlapping, with gaps.
		{"ab ab", "abab", []api.Span{{From: 2, To: 4, Val: 1}, {From: 0, To: 2}}, "0011"}, {"ab ab ab", "abab", []api.Span{{From: 2, To: 4, Val: 1}, {From: 0, To: 2, Val: 2}}, "2211"}, {"ab ab", "abab", []api.Span{{From: 0, To: 3, Val: 1}, {From: 1, To: 4}}, "1110"}, {"ab ab", "abab", []api.Span{{From: 1, To: 3}, {From: 0, To: 4, Val: 1}}, "1001"}, {"ab ab", "abab", []api.Span{{From: 0, To: 4}, {From: 0, To: 4, Val: 1}}, "0000"}, {"ab ab ab", "abab", []api.Span{{From: 0, To: 4, Val: 2}, {From: 1, To: 3, Val: 1}}, "2222"}, {"ab ab", "abab", []api.Span{{From: 1, To: 2, Val: 1}, {From: 3, To: 4, Val: 1}}, "0101"}, {"ab ab", "abab", []api.Span{{From: 3, To: 4, Val: 1}}, "0001"},
		// Empty, reversed, outside the text.
		{"ab ab", "abab", []api.Span{{From: 1, To: 1, Val: 1}}, "0000"}, {"ab ab", "abab", []api.Span{{From: 3, To: 1, Val: 1}}, "0000"}, {"ab ab", "abab", []api.Span{{From: 3, To: 1}, {From: 1, To: 3, Val: 1}}, "0110"}, {"ab ab", "abab", []api.Span{{From: -5, To: 2, Val: 1}}, "1100"}, {"ab ab", "abab", []api.Span{{From: 2, To: 99, Val: 1}}, "0011"}, {"ab ab", "abab", []api.Span{{From: 4, To: 9, Val: 1}}, "0000"}, {"ab ab", "abab", []api.Span{{From: -9, To: 0, Val: 1}}, "0000"}, {"ab ab", "abab", []api.Span{{From: math.MinInt, To: math.MaxInt, Val: 1}}, "1111"}, {"ab ab", "abab", []api.Span{{From: math.MaxInt, To: math.MinInt, Val: 1}}, "0000"}, {"ab ab", "abab", []api.Span{{From: math.MinInt, To: 1, Val: 1}, {From: 3, To: math.MaxInt, Val: 1}}, "1001"},
		// They change within a cluster.
		{"a' a'", "a'a'", []api.Span{{From: 1, To: 2, Val: 1}}, "0000"}, {"a' a'", "a'a'", []api.Span{{From: 1, To: 3, Val: 1}}, "0011"}, {"a' a'", "a'a'", []api.Span{{From: 0, To: 1, Val: 1}}, "1100"}, {"a' a'", "a'a'", []api.Span{{From: 0, To: 1, Val: 1}, {From: 1, To: 2}, {From: 2, To: 3, Val: 1}, {From: 3, To: 4}}, "1111"}, {"a' a'", "a'a'", []api.Span{{From: 1, To: 4, Val: 1}}, "0011"}, {"a' a'", "a'''a", []api.Span{{From: 1, To: 5, Val: 1}}, "00001"}, {"a a", "rna", []api.Span{{From: 1, To: 3, Val: 1}}, "001"}, {"F F", "FFFF", []api.Span{{From: 1, To: 3, Val: 1}}, "0011"}, {"* *", "*z**", []api.Span{{From: 1, To: 3, Val: 1}}, "0000"}, {"Pa Pa", "PaPa", []api.Span{{From: 1, To: 3, Val: 1}}, "0011"},
		// Values that are no fonts.
		{"ab b", "ab", []api.Span{{From: 0, To: 2, Val: -1}}, "00"}, {"ab b", "ab", []api.Span{{From: 0, To: 2, Val: 2}}, "00"}, {"ab b", "ab", []api.Span{{From: 0, To: 2, Val: math.MaxInt}}, "00"}, {"ab b", "xx", []api.Span{{From: 0, To: 2, Val: math.MinInt}}, "00"}, {"a b", "bxx", []api.Span{{From: 0, To: 2, Val: 5}, {From: 2, To: 3, Val: 1}}, "101"}, {"a b", "z", []api.Span{{From: 0, To: 1, Val: 1 << 32}}, "0"},
	} {
		fonts, text := fontsOf(c.fonts), spell(c.text)
		if got := Of(fonts, text, c.prefer); !slices.Equal(got, wholeOf(digits(c.want))) {
			t.Errorf("%v: %v", c, got)
		}
		holds(t, fonts, text, c.prefer)
	}
}

// Neighbouring clusters of one font are one span.
func TestP23_4Joined(t *testing.T) {
	fonts := fontsOf("a b")
	for _, c := range []struct {
		text string
		want []api.Span
	}{
		{"", nil}, {"a", []api.Span{{To: 1}}}, {"aaaa", []api.Span{{To: 4}}}, {"bbbb", []api.Span{{To: 4, Val: 1}}}, {"aaab", []api.Span{{To: 3}, {From: 3, To: 4, Val: 1}}},
		{"baaa", []api.Span{{To: 1, Val: 1}, {From: 1, To: 4}}}, {"abba", []api.Span{{To: 1}, {From: 1, To: 3, Val: 1}, {From: 3, To: 4}}}, {"azaxsa", []api.Span{{To: 6}}}, {"bzbozb", []api.Span{{To: 6, Val: 1}}},
	} {
		if got := Of(fonts, spell(c.text), nil); !slices.Equal(got, c.want) {
			t.Errorf("%q: %v", c.text, got)
		}
	}
}

// All short texts with all small choices of fonts and spans.
func TestP23_4AllSmall(t *testing.T) {
	lists(2, fontsOf(". a a' ' z"), func(fonts []api.Font) {
		for _, prefer := range [][]api.Span{nil, {{From: 0, To: 9, Val: 1}}, {{From: 1, To: 3, Val: 1}}, {{From: 0, To: 2, Val: 1}, {From: 2, To: 9, Val: -1}}, {{From: 2, To: 9, Val: 1}, {From: 0, To: 9, Val: 2}}} {
			lists(4, spell("a'zn"), func(text []rune) { holds(t, fonts, text, prefer) })
		}
	})
}

func TestP23_4Some(t *testing.T) {
	next := stream()
	signs := slices.Concat(allSigns(), notCodes())
	var answers [6]int
	for range 40000 {
		few := some(next, 1+next(6), signs)
		fonts := someFonts(next, 5, few)
		text := some(next, next(20), append(few, spell("aa''zrn")...))
		for _, answer := range holds(t, fonts, text, someSpans(next, len(text), len(fonts))) {
			answers[answer]++
		}
	}
	for answer, count := range answers[1:] {
		if count < 1000 {
			t.Errorf("answer %d was given %d times", answer+1, count)
		}
	}
}

// Each cluster alone is picked as Of says, with the one before as the font ahead.
func TestP23_4Picks(t *testing.T) {
	next := stream()
	for range 3000 {
		fonts := someFonts(next, 5, spell("ab'zF*"))
		text := some(next, next(30), spell("ab'zF*rnsP?"))
		prefer := someSpans(next, len(text), len(fonts))
		got, ahead := Of(fonts, text, prefer), api.None
		for _, c := range grapheme.Cuts(text) {
			ahead = Pick(fonts, spans.At(prefer, c.From), text[c.From:c.To], ahead)
			for i := c.From; i < c.To; i++ {
				if spans.At(got, i) != ahead {
					t.Fatalf("Of(%v, %X, %v) = %v, and Pick at %d is %d", mapsOf(fonts), text, prefer, got, i, ahead)
				}
			}
		}
	}
}

// Spans begin at boundaries, and what some font has is in one that has it: for fonts that lack one code point each, and texts of long clusters.
func TestP23_5(t *testing.T) {
	next := stream()
	codes := spell("ab'P*F")
	for range 5000 {
		var fonts []api.Font
		for range 1 + next(6) {
			lacks := next(len(codes))
			fonts = append(fonts, fontOf(slices.Delete(slices.Clone(codes), lacks, lacks+1)...))
		}
		text := some(next, next(40), spell("ab''''zPP*FFo"))
		holds(t, fonts, text, someSpans(next, len(text), len(fonts)))
		holds(t, fonts, text, nil)
	}
}

func TestP23_6OneFont(t *testing.T) {
	next := stream()
	signs := slices.Concat(allSigns(), notCodes())
	for range 5000 {
		few := some(next, 1+next(6), signs)
		text := some(next, 1+next(20), append(few, 'q'))
		prefer := someSpans(next, len(text), 3)
		for _, fonts := range [][]api.Font{{someFont(next, few)}, {{}}, {font.Plain(few, 5)}} {
			if got := Of(fonts, text, prefer); !slices.Equal(got, []api.Span{{From: 0, To: len(text)}}) {
				t.Fatalf("Of(%v, %X, %v) = %v", mapsOf(fonts), text, prefer, got)
			}
		}
	}
}

// Clusters that need no glyph are in the preferred font, whatever the fonts have.
func TestP23_6NeedsNone(t *testing.T) {
	next := stream()
	none := spell("zorsni\x01\t")
	for range 5000 {
		fonts := append(someFonts(next, 4, spell("azorn")), fontOf(some(next, next(4), none)...))
		text := some(next, 1+next(12), none)
		var vals []int
		for i := range text {
			if grapheme.Is(text, i) {
				vals = append(vals, next(len(fonts)))
			} else {
				vals = append(vals, vals[i-1])
			}
		}
		if got := Of(fonts, text, wholeOf(vals)); !slices.Equal(got, wholeOf(vals)) {
			t.Fatalf("Of(%v, %X, %v) = %v", mapsOf(fonts), text, wholeOf(vals), got)
		}
		holds(t, fonts, text, someSpans(next, len(text), len(fonts)))
	}
}

// No arguments make a call panic.
func TestR1Anything(t *testing.T) {
	far := append(farInts(), 0, 1, 2)
	for _, r := range notCodes() {
		fonts := []api.Font{{}, {Em: math.MinInt, Maps: []api.Map{{Code: r, Glyph: math.MinInt}, {Code: 'a', Glyph: math.MaxInt}}}, {Maps: []api.Map{{Code: r}}}}
		text := []rune{r, 0x301, r, r, 'a', 0x200D, r}
		for _, from := range far {
			for _, to := range far {
				prefer := []api.Span{{From: from, To: to, Val: to}, {From: to, To: from, Val: from}}
				holds(t, fonts, text, prefer)
				picks(t, fonts, from, text[:2], to)
				picks(t, fonts[:1], from, text[4:], to)
			}
		}
		hasAsAsked(t, fonts[1], text)
	}
}

// argument is all memory of the arguments of the calls, also the room behind them.
type argument struct {
	fonts         []api.Font
	maps          [][]api.Map
	glyphs        [][]api.Info
	text, cluster []rune
	prefer        []api.Span
}

// wholeArgument returns a copy of all memory of the arguments.
func wholeArgument(fonts []api.Font, text, cluster []rune, prefer []api.Span) argument {
	a := argument{fonts: whole(fonts), text: whole(text), cluster: whole(cluster), prefer: whole(prefer)}
	for _, f := range a.fonts {
		a.maps, a.glyphs = append(a.maps, whole(f.Maps)), append(a.glyphs, whole(f.Glyphs))
	}
	return a
}

// same tells whether the memory is as it was.
func (a argument) same(b argument) bool {
	told := func(x, y api.Info) bool {
		return x.Adv == y.Adv && x.Kind == y.Kind && x.Attach == y.Attach && len(x.Carets) == len(y.Carets)
	}
	return len(a.fonts) == len(b.fonts) && slices.EqualFunc(a.maps, b.maps, slices.Equal) &&
		slices.EqualFunc(a.glyphs, b.glyphs, func(x, y []api.Info) bool { return slices.EqualFunc(x, y, told) }) &&
		slices.Equal(a.text, b.text) && slices.Equal(a.cluster, b.cluster) && slices.Equal(a.prefer, b.prefer)
}

// roomyFonts returns up to five fonts with more elements in the memory behind them and behind what they hold.
func roomyFonts(next func(int) int) []api.Font {
	fonts := someFonts(next, 5, spell("ab'z"))
	for i := range fonts {
		fonts[i].Maps = roomy(fonts[i].Maps, api.Map{Code: 'b', Glyph: 5}, api.Map{Code: 0x301, Glyph: 6})
		fonts[i].Glyphs = roomy(fonts[i].Glyphs, api.Info{Adv: 7, Kind: 1})
	}
	return roomy(fonts, fontOf(spell("ab'z")...), fontOf('b'))
}

// Arguments are not written to, and what lies behind them in memory is neither written to nor read.
func TestR5Arguments(t *testing.T) {
	next := stream()
	for range 3000 {
		fonts := roomyFonts(next)
		text := roomy(some(next, next(12), spell("ba'zxn")), 0x301, 'a')
		cluster := roomy(some(next, next(4), spell("b'az")), 0x301, 'q')
		prefer := roomy(someSpans(next, len(text), len(fonts)), api.Span{From: 0, To: 20, Val: 1})
		before := wholeArgument(fonts, text, cluster, prefer)
		holds(t, fonts, text, prefer)
		picks(t, fonts, next(5)-1, cluster, next(5)-1)
		for _, f := range fonts {
			hasAsAsked(t, f, cluster)
		}
		if after := wholeArgument(fonts, text, cluster, prefer); !before.same(after) {
			t.Fatalf("the arguments %v became %v", before, after)
		}
	}
}

// Results are new memory, and stay as they are when the arguments change.
func TestR5Results(t *testing.T) {
	next := stream()
	for range 2000 {
		fonts := roomyFonts(next)
		text := roomy(some(next, next(12), spell("ba'zxn")), 0x301)
		prefer := roomy(someSpans(next, len(text), len(fonts)), api.Span{From: 0, To: 20, Val: 1})
		before := wholeArgument(fonts, text, nil, prefer)
		got, again := Of(fonts, text, prefer), Of(fonts, text, prefer)
		want := slices.Clone(got)
		spoil(again, api.Span{From: -7, To: -7, Val: -7})
		if after := wholeArgument(fonts, text, nil, prefer); !before.same(after) || !slices.Equal(got, want) {
			t.Fatalf("the result shares memory with the arguments %v, or with another result", before)
		}
		for i := range fonts {
			spoil(fonts[i].Maps, api.Map{Code: 'a', Glyph: 88})
		}
		spoil(fonts, api.Font{})
		spoil(text, 'w')
		spoil(prefer, api.Span{From: -1, To: 99, Val: 3})
		if !slices.Equal(got, want) {
			t.Fatalf("the result %v became %v", want, got)
		}
	}
}

// No call hangs on those before it, also where the caller changes fonts in place.
func TestR4Calls(t *testing.T) {
	next := stream()
	fonts, text := fontsOf("a b' c z"), spell("abc'zb'x'")
	for i := range 300 {
		fonts[i%4].Maps = someFont(next, spell("abc'z")).Maps
		if f := fonts[i%3]; len(f.Maps) > 0 {
			f.Maps[i%len(f.Maps)] = api.Map{Code: 'x', Glyph: i % 2}
		}
		text[i%len(text)] = spell("abcx'z")[next(6)]
		holds(t, fonts, text, someSpans(next, len(text), len(fonts)))
		picks(t, fonts, next(6)-1, text[:1+i%3], next(6)-1)
		checkOf(t, []ofRow{{"a bx c", "bx'cx'", "", "111200"}, {"x b", "x'", "11", "11"}, {"a b", "abx", "", "010"}, {"", "a", "", "0"}})
		checkPicks(t, []pickRow{{"a b", 0, "b", 0, 1, 2}, {"b a", 0, "a'", 1, 1, 3}, {"a b", 1, "x", 0, 1, 4}, {"a b", 2, "x", 1, 0, 5}, {"a a", 1, "a", 0, 1, 1}})
	}
}

// A nil list is as an empty one.
func TestR6Empty(t *testing.T) {
	for _, fonts := range [][]api.Font{nil, {}, {{}}, fontsOf("a b")} {
		for _, prefer := range [][]api.Span{nil, {}, {{From: 0, To: 5, Val: 1}}} {
			for _, text := range [][]rune{nil, {}} {
				if got := Of(fonts, text, prefer); len(got) != 0 {
					t.Errorf("Of(%v, %v, %v) = %v", mapsOf(fonts), text, prefer, got)
				}
			}
			holds(t, fonts, []rune("ab"), prefer)
		}
		for _, cluster := range [][]rune{nil, {}} {
			for at := -1; at <= len(fonts); at++ {
				picks(t, fonts, at, cluster, 0)
				picks(t, fonts, 0, cluster, at)
			}
			for _, f := range fonts {
				if !Has(f, cluster) {
					t.Errorf("Has(%v, %v) is false", f.Maps, cluster)
				}
			}
		}
	}
	for _, f := range []api.Font{{}, {Glyphs: []api.Info{}, Maps: []api.Map{}}} {
		if Has(f, []rune{'a'}) || !Has(f, []rune{0x200D}) || !Has(f, nil) {
			t.Error("a font without mappings")
		}
	}
}

const (
	// firstOfBlocks is where the code points of the fonts of blocks begin: all of them are clusters by themselves.
	firstOfBlocks rune = 0x20000
	block              = api.MaxMaps
)

// blocks returns n fonts of as many mappings as a font may have: each has the code points behind those of the one before.
func blocks(n int) []api.Font {
	var fonts []api.Font
	for k := range n {
		f := api.Font{Em: 1000, Glyphs: make([]api.Info, 2)}
		for i := range block {
			f.Maps = append(f.Maps, api.Map{Code: firstOfBlocks + rune(k*block+i), Glyph: 1})
		}
		fonts = append(fonts, f)
	}
	return fonts
}

// The greatest texts in the greatest fonts, of which each has its own code points.
func TestR8Blocks(t *testing.T) {
	next := stream()
	fonts := blocks(64)
	backward := blocks(64)
	for _, f := range backward {
		slices.Reverse(f.Maps)
	}
	for _, n := range []int{4096, most - 1, most} {
		text, vals, wishes := make([]rune, n), make([]int, n), make([]int, n)
		for i := range text {
			vals[i], wishes[i] = next(64), next(70)-3
			text[i] = firstOfBlocks + rune(vals[i]*block+next(block))
		}
		for _, f := range [][]api.Font{fonts, backward} {
			if got := Of(f, text, nil); !slices.Equal(got, wholeOf(vals)) {
				t.Errorf("%d code points: %d spans", n, len(got))
			}
		}
		if got := Of(fonts, text, wholeOf(wishes)); !slices.Equal(got, wholeOf(vals)) {
			t.Errorf("%d code points with wishes: %d spans", n, len(got))
		}
		for i := 0; i < n; i += 2111 {
			picks(t, fonts, wishes[i], text[i:i+1], vals[i])
			hasAsAsked(t, fonts[vals[i]], text[i:i+1])
			hasAsAsked(t, backward[i%64], text[i:i+1])
		}
	}
}

// The greatest texts of code points that no font has, of one cluster, and of clusters that need no glyph, with as many spans.
func TestR8Wishes(t *testing.T) {
	next := stream()
	fonts := blocks(64)
	vals := make([]int, most)
	for i := range vals {
		vals[i] = next(64)
	}
	for _, r := range []rune{'?', 0xAD} {
		if got := Of(fonts, slices.Repeat([]rune{r}, most), wholeOf(vals)); !slices.Equal(got, wholeOf(vals)) {
			t.Errorf("%X: %d spans", r, len(got))
		}
	}
	long := slices.Repeat([]rune{0x301}, most)
	fonts[40].Maps[0].Code, fonts[50].Maps[7].Code = 0x301, 0x301
	if got := Of(fonts, long, wholeOf(vals)); !slices.Equal(got, []api.Span{{From: 0, To: most, Val: 40}}) {
		t.Errorf("a long cluster: %v", got)
	}
	long[0] = firstOfBlocks + 50*block
	if got := Of(fonts, long, nil); !slices.Equal(got, []api.Span{{From: 0, To: most, Val: 50}}) {
		t.Errorf("a long cluster: %v", got)
	}
	if !Has(fonts[50], long) || Has(fonts[40], long) || Pick(fonts, 40, long, 40) != 50 {
		t.Error("a long cluster")
	}
	long[most-1] = 0x302
	if Has(fonts[50], long) || Pick(fonts, 3, long, 40) != 3 || Pick(fonts, 3, long, 50) != 50 {
		t.Error("a long cluster that no font has")
	}
}

// The greatest texts of clusters of all kinds, with spans of all kinds.
func TestR8Long(t *testing.T) {
	next := stream()
	for _, n := range []int{4096, most - 1, most} {
		fonts := fontsOf("a b' cz' xF P* .")
		text := some(next, n, spell("aabbccx''zFF*PPrnso?!"))
		wishes := make([]int, n)
		for i := range wishes {
			wishes[i] = next(8) - 1
		}
		for _, prefer := range [][]api.Span{nil, {{From: n / 2, To: n, Val: 2}, {From: 0, To: 2 * n, Val: 3}}, someSpans(next, n, len(fonts)), wholeOf(wishes[:n/64])} {
			vals, _ := valsByChapter(fonts, text, prefer)
			if got := Of(fonts, text, prefer); !slices.Equal(got, wholeOf(vals)) {
				t.Errorf("%d code points with %d spans: %d spans, not %d", n, len(prefer), len(got), len(wholeOf(vals)))
			}
		}
	}
}

// As many fonts, and as many mappings, as a list may hold.
func TestR8ManyFonts(t *testing.T) {
	fonts := make([]api.Font, most)
	fonts[most-1] = fontOf('a')
	fonts[most/2] = fontOf('b')
	for i, want := range map[rune]int{'a': most - 1, 'b': most / 2, 'c': 7} {
		if got := Pick(fonts, 7, []rune{i}, 9); got != want {
			t.Errorf("%c: %d", i, got)
		}
	}
	if got := Of(fonts, []rune("abca"), nil); !slices.Equal(got, wholeOf([]int{most - 1, most / 2, 0, most - 1})) {
		t.Errorf("%v", got)
	}
	wide := api.Font{Maps: make([]api.Map, most)}
	for i := range wide.Maps {
		wide.Maps[i] = api.Map{Code: firstOfBlocks + rune(i*7%most), Glyph: i % 3}
	}
	next := stream()
	for range 200 {
		hasAsAsked(t, wide, []rune{firstOfBlocks + rune(next(most))})
		hasAsAsked(t, wide, []rune{firstOfBlocks + rune(next(most)), firstOfBlocks - 1})
	}
}

func TestExamples(t *testing.T) {
	fonts := fontsOf("a b")
	if got := Of(fonts, []rune("ab"), []api.Span{{From: 0, To: 2}}); !slices.Equal(got, []api.Span{{From: 0, To: 1, Val: 0}, {From: 1, To: 2, Val: 1}}) {
		t.Errorf("Of(ab) = %v", got)
	}
	if got := Of(fonts, []rune("bx"), []api.Span{{From: 0, To: 2}}); !slices.Equal(got, []api.Span{{From: 0, To: 1, Val: 1}, {From: 1, To: 2, Val: 0}}) {
		t.Errorf("Of(bx) = %v", got)
	}
	if Needs(0x200D) {
		t.Error("Needs(200D) is true")
	}
}

// The letters of the texts written by hand stand for what the tests say.
func TestSigns(t *testing.T) {
	for _, c := range []struct {
		letters string
		cluster int
		needs   bool
	}{
		{"r", api.ClCR, false}, {"n", api.ClLF, false}, {"'", api.ClExtend, true}, {"z", api.ClZWJ, false}, {"o", api.ClExtend, false}, {"si", api.ClControl, false},
		{"F", api.ClRegional, true}, {"P", api.ClPrepend, true}, {"*", api.ClPicture, true}, {"abcdexyAB?!", api.ClAny, true},
	} {
		for _, r := range spell(c.letters) {
			if props.Of(r).Cluster != c.cluster || needsByChapter(r) != c.needs {
				t.Errorf("%s: %X is of the class %d", c.letters, r, props.Of(r).Cluster)
			}
		}
	}
	if len(spell(".")) != 0 || len(fontsOf(strings.Repeat(" . ", 3))) != 3 {
		t.Error("dots")
	}
}
