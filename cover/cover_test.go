package cover

import (
	"math"
	"slices"
	"testing"

	"typecase/api"
	"typecase/font"
)

// mapped returns a font with the mappings that are written as a code and a digit each, and ten glyphs.
func mapped(written string) api.Font {
	f := api.Font{Em: 1000, Glyphs: make([]api.Info, 10)}
	signs := []rune(written)
	for i := 0; i < len(signs); i += 2 {
		f.Maps = append(f.Maps, api.Map{Code: signs[i], Glyph: int(signs[i+1] - '0')})
	}
	return f
}

// digits returns the numbers that are written as digits.
func digits(text string) []int {
	var list []int
	for _, digit := range text {
		list = append(list, int(digit-'0'))
	}
	return list
}

// gives checks the calls about a text against what is written by hand, and against the chapter.
func gives(t *testing.T, f api.Font, text []rune, glyphs, missing []int) {
	t.Helper()
	if got := Text(f, text); !slices.Equal(got, glyphs) {
		t.Errorf("Text(%v, %X) = %v, not %v", f.Maps, text, got, glyphs)
	}
	if got := Missing(f, text); !slices.Equal(got, missing) {
		t.Errorf("Missing(%v, %X) = %v, not %v", f.Maps, text, got, missing)
	}
	for i, r := range text {
		if got := Glyph(f, r); got != glyphs[i] {
			t.Errorf("Glyph(%v, %X) = %d, not %d", f.Maps, r, got, glyphs[i])
		}
	}
	holds(t, f, text)
	parts(t, f, text)
}

// handRow is the mappings of a font, a text, the digits of its glyphs and of the positions that are missing, all written by hand.
type handRow struct{ maps, text, glyphs, missing string }

func checkRows(t *testing.T, rows []handRow) {
	t.Helper()
	for _, row := range rows {
		gives(t, mapped(row.maps), []rune(row.text), digits(row.glyphs), digits(row.missing))
	}
}

func TestP22_1ByHand(t *testing.T) {
	checkRows(t, []handRow{
		{"", "", "", ""}, {"", "a", "0", "0"}, {"", "abc", "000", "012"}, {"", "aaa", "000", "012"},
		{"a1", "", "", ""}, {"a1", "a", "1", ""}, {"a1", "b", "0", "0"}, {"a1", "aaaa", "1111", ""}, {"a1", "bbb", "000", "012"}, {"a1", "ab", "10", "1"}, {"a1", "ba", "01", "0"}, {"b1", "abc", "010", "02"}, {"a5", "aba", "505", "1"}, {"a1", "A", "0", "0"},
		{"a1b2c3", "abc", "123", ""}, {"a1b2c3", "cba", "321", ""}, {"a1b2c3", "xabcx", "01230", "04"}, {"a1b2c3", "axbxc", "10203", "13"}, {"a1b2c3", "xyz", "000", "012"}, {"a1b2c3", "aabbccdd", "11223300", "67"}, {"a1b2c3", "ddccbbaa", "00332211", "01"},
		{"c3b2a1", "abc", "123", ""}, {"c3b2a1", "xabcx", "01230", "04"}, {"b2c3a1", "abcd", "1230", "3"}, {"c3a1b2", "dcba", "0321", "0"}, {"d1b2a3c4e5", "abcdef", "324150", "5"}, {"e9a1d8b2c7", "fedcba", "098721", "0"},
		{"a3b3c3", "abcd", "3330", "3"}, {"b7d7", "abcde", "07070", "024"}, {"d7b7", "abcde", "07070", "024"},
		{"a1א2ب3字4😀5", "aאب字😀", "12345", ""}, {"a1א2ب3字4😀5", "bבת文😁", "00000", "01234"}, {"😀5字4ب3א2a1", "😀字באa", "54021", "2"},
	})
}

// The same code twice and more often: the first mapping decides.
func TestP22_1FirstDecides(t *testing.T) {
	checkRows(t, []handRow{
		{"a1a2", "a", "1", ""}, {"a2a1", "a", "2", ""}, {"a1a1", "a", "1", ""}, {"a9a5a1", "aba", "909", "1"}, {"a1a5a9", "aba", "101", "1"}, {"a5a9a1", "a", "5", ""}, {"a5a1a9a2a8", "a", "5", ""},
		{"a0a1", "a", "0", ""}, {"a1a0", "a", "1", ""}, {"a0a0", "a", "0", ""}, {"a0a9a9a9", "ab", "00", "1"}, {"a9a0a0a0", "ab", "90", "1"}, {"a0a1a0", "a", "0", ""}, {"a1a0a1", "a", "1", ""},
		{"a1b2a3", "abc", "120", "2"}, {"a3b2a1", "abc", "320", "2"}, {"a1a2b3b4", "ab", "13", ""}, {"b3b4a1a2", "ab", "13", ""}, {"b4a2b3a1", "ab", "24", ""}, {"a2b4a1b3", "ab", "24", ""}, {"b1a2a3b4c5c6", "abc", "215", ""}, {"c6b5a4c3b2a1", "abc", "456", ""},
		{"x1a2x3b4x5c6x7", "xabcx", "12461", ""}, {"a0b1a1b0", "ab", "01", ""}, {"b0a0b1a1", "abc", "000", "2"},
	})
	for count := 1; count <= 300; count++ {
		f := api.Font{Maps: indexed(count, func(i int) api.Map { return api.Map{Code: 'm', Glyph: 7 + i} })}
		gives(t, f, []rune("lmn"), []int{0, 7, 0}, []int{0, 2})
		slices.Reverse(f.Maps)
		gives(t, f, []rune("nml"), []int{0, 6 + count, 0}, []int{0, 2})
	}
	for size := 2; size <= 60; size++ {
		for second := 1; second < size; second++ { // the code of the first mapping once more, among others
			f := api.Font{Maps: indexed(size, func(i int) api.Map { return api.Map{Code: rune('a' + i), Glyph: 100 + i} })}
			f.Maps[second].Code = 'a'
			gives(t, f, []rune{'a', rune('a' + second)}, []int{100, 0}, []int{1})
		}
	}
}

// A mapping to glyph 0 is a mapping, and so is one to what is no glyph of the font.
func TestP22_1AnyGlyph(t *testing.T) {
	checkRows(t, []handRow{{"a0", "a", "0", ""}, {"a0", "ab", "00", "1"}, {"a0", "ba", "00", "0"}, {"a0b0c0", "abcd", "0000", "3"}, {"c0b0a0", "dcba", "0000", "0"}, {"a0b1", "abc", "010", "2"}, {"b1a0", "abc", "010", "2"}})
	for _, glyphs := range []int{0, 1, 2} {
		for _, g := range slices.Concat(strangeInts(), []int{-3, -2, -1, 0, 1, 2, 3}) {
			f := api.Font{Glyphs: make([]api.Info, glyphs), Maps: []api.Map{{Code: 'b', Glyph: g}, {Code: 'b', Glyph: 5}}}
			gives(t, f, []rune("abc"), []int{0, g, 0}, []int{0, 2})
			f.Maps = append(f.Maps, api.Map{Code: 'a', Glyph: ^g})
			gives(t, f, []rune("abc"), []int{^g, g, 0}, []int{2})
		}
	}
}

// Codes that are no valid runes are found as all others are.
func TestP22_1AnyCode(t *testing.T) {
	all := slices.Concat(strangeRunes(), plainRunes())
	for i, code := range all {
		gives(t, api.Font{Maps: []api.Map{{Code: code, Glyph: 8}}}, []rune{code, code}, []int{8, 8}, nil)
		gives(t, api.Font{}, []rune{code}, []int{0}, []int{0})
		for k, other := range all {
			if i == k {
				continue
			}
			gives(t, api.Font{Maps: []api.Map{{Code: code, Glyph: 8}}}, []rune{other, code}, []int{0, 8}, []int{0})
			gives(t, api.Font{Maps: []api.Map{{Code: code, Glyph: 8}, {Code: other, Glyph: 9}, {Code: code, Glyph: 7}}}, []rune{other, code}, []int{9, 8}, nil)
		}
	}
	next := stream()
	for range 300 {
		order := slices.Clone(all)
		for i := range order {
			k := next(i + 1)
			order[i], order[k] = order[k], order[i]
		}
		f := api.Font{Maps: indexed(len(order), func(i int) api.Map { return api.Map{Code: order[i], Glyph: i + 1} })}
		gives(t, f, order, indexed(len(order), func(i int) int { return i + 1 }), nil)
		half := next(len(order))
		f.Maps = f.Maps[:half]
		holds(t, f, order)
		slices.SortFunc(f.Maps, func(a, b api.Map) int { return int(int64(a.Code) - int64(b.Code)) })
		holds(t, f, order)
		slices.Reverse(f.Maps)
		holds(t, f, order)
	}
}

// All short lists of mappings with all short texts.
func TestP22_1ShortLists(t *testing.T) {
	var among []api.Map
	for _, code := range []rune{'a', 'b', 'c'} {
		for _, g := range []int{0, 1, -1} {
			among = append(among, api.Map{Code: code, Glyph: g})
		}
	}
	var texts [][]rune
	lists(3, []rune("abcd"), func(text []rune) { texts = append(texts, text) })
	lists(4, among, func(maps []api.Map) {
		f := api.Font{Maps: maps}
		for _, text := range texts {
			holds(t, f, text)
		}
	})
	lists(7, []rune("abc"), func(codes []rune) {
		f := api.Font{Maps: indexed(len(codes), func(i int) api.Map { return api.Map{Code: codes[i], Glyph: i} })}
		holds(t, f, []rune("dcba`"))
	})
}

func TestP22_1SomeFonts(t *testing.T) {
	next := stream()
	for i := range 20000 {
		few := some(next, 1+next(8), slices.Concat(plainRunes(), strangeRunes()))
		f := someFont(next, []int{3, 12, 100}[i%3], few)
		text := some(next, next(20), append(few, 'q', 0x5D2, -3))
		holds(t, f, text)
		slices.SortFunc(f.Maps, func(a, b api.Map) int { return int(int64(a.Code) - int64(b.Code)) })
		holds(t, f, text)
	}
}

// Every code point, and the runes beside them, in lists as long as R8 has them.
func TestP22_1EveryCodePoint(t *testing.T) {
	f := api.Font{}
	for i, code := range slices.Concat(plainRunes(), strangeRunes()) {
		f.Maps = append(f.Maps, api.Map{Code: code, Glyph: i % 7})
	}
	backward := api.Font{Maps: slices.Clone(f.Maps)}
	slices.Reverse(backward.Maps)
	first := mappings(f)
	for from := -int64(most); from <= int64(top)+1; from += most {
		text := indexed(most, func(i int) rune { return rune(from) + rune(i) })
		glyphs, missing := textByChapter(f, text)
		for _, g := range []api.Font{f, backward} {
			if !slices.Equal(Text(g, text), glyphs) || !slices.Equal(Missing(g, text), missing) {
				t.Fatalf("the code points from %X on", from)
			}
		}
		for _, r := range text {
			if got := Glyph(f, r); got != first[r] {
				t.Fatalf("Glyph(%X) = %d, not %d", r, got, first[r])
			}
		}
	}
}

func TestP22_2ByHand(t *testing.T) {
	const low, high = math.MinInt, math.MaxInt
	for _, c := range []struct {
		cover []int
		g     int
		want  int
		found bool
	}{
		{nil, 0, 0, false}, {nil, 1, 0, false}, {nil, -1, 0, false}, {[]int{}, 0, 0, false}, {[]int{}, high, 0, false},
		{[]int{0}, 0, 0, true}, {[]int{0}, 1, 0, false}, {[]int{0}, -1, 0, false}, {[]int{5}, 5, 0, true}, {[]int{5}, 4, 0, false}, {[]int{5}, 6, 0, false}, {[]int{5}, 0, 0, false},
		{[]int{2, 5}, 2, 0, true}, {[]int{2, 5}, 5, 1, true}, {[]int{2, 5}, 1, 0, false}, {[]int{2, 5}, 3, 0, false}, {[]int{2, 5}, 6, 0, false}, {[]int{2, 5}, 0, 0, false}, {[]int{2, 5}, -2, 0, false}, {[]int{2, 5}, -5, 0, false},
		{[]int{1, 3, 5, 7, 9}, 1, 0, true}, {[]int{1, 3, 5, 7, 9}, 3, 1, true}, {[]int{1, 3, 5, 7, 9}, 5, 2, true}, {[]int{1, 3, 5, 7, 9}, 7, 3, true}, {[]int{1, 3, 5, 7, 9}, 9, 4, true}, {[]int{1, 3, 5, 7, 9}, 0, 0, false}, {[]int{1, 3, 5, 7, 9}, 2, 0, false}, {[]int{1, 3, 5, 7, 9}, 6, 0, false}, {[]int{1, 3, 5, 7, 9}, 8, 0, false}, {[]int{1, 3, 5, 7, 9}, 10, 0, false}, {[]int{1, 3, 5, 7, 9}, high, 0, false}, {[]int{1, 3, 5, 7, 9}, low, 0, false},
		{[]int{9, 7, 5, 3, 1}, 9, 0, true}, {[]int{9, 7, 5, 3, 1}, 7, 1, true}, {[]int{9, 7, 5, 3, 1}, 1, 4, true}, {[]int{9, 7, 5, 3, 1}, 8, 0, false}, {[]int{9, 7, 5, 3, 1}, 0, 0, false}, {[]int{9, 7, 5, 3, 1}, 10, 0, false},
		{[]int{4, 4}, 4, 0, true}, {[]int{3, 4, 4}, 4, 1, true}, {[]int{4, 4, 5, 5}, 5, 2, true}, {[]int{1, 2, 2, 2, 2, 2, 2, 3}, 2, 1, true}, {[]int{2, 2, 2, 2, 2, 2, 2, 3}, 2, 0, true}, {[]int{2, 2, 2, 2, 2, 2, 2, 3}, 3, 7, true}, {[]int{5, 1, 5}, 5, 0, true}, {[]int{1, 5, 2, 5}, 5, 1, true}, {[]int{0, 0, 0}, 0, 0, true}, {[]int{7, 0, 0}, 0, 1, true},
		{[]int{5, 1, 4, 2, 3}, 1, 1, true}, {[]int{5, 1, 4, 2, 3}, 2, 3, true}, {[]int{5, 1, 4, 2, 3}, 3, 4, true}, {[]int{5, 1, 4, 2, 3}, 5, 0, true}, {[]int{5, 1, 4, 2, 3}, 6, 0, false}, {[]int{5, 1, 4, 2, 3}, 0, 0, false},
		{[]int{-1}, -1, 0, true}, {[]int{-1}, 1, 0, false}, {[]int{-1}, 0, 0, false}, {[]int{-3, -2, -1, 0}, -2, 1, true}, {[]int{-3, -2, -1, 0}, 0, 3, true}, {[]int{0, -1, -2}, -2, 2, true}, {[]int{0, -1, -2}, 2, 0, false},
		{[]int{low, 0, high}, low, 0, true}, {[]int{low, 0, high}, high, 2, true}, {[]int{low, 0, high}, 0, 1, true}, {[]int{low, 0, high}, -1, 0, false}, {[]int{low, 0, high}, high - 1, 0, false}, {[]int{low, 0, high}, low + 1, 0, false}, {[]int{high, low}, low, 1, true}, {[]int{high, low}, high, 0, true}, {[]int{high - 1}, high, 0, false}, {[]int{low + 1}, low, 0, false},
		{[]int{1 << 32}, 0, 0, false}, {[]int{1<<32 + 5, 5}, 5, 1, true},
	} {
		if got, found := Index(c.cover, c.g); got != c.want || found != c.found {
			t.Errorf("Index(%v, %d) = %d, %t, not %d, %t", c.cover, c.g, got, found, c.want, c.found)
		}
	}
}

// finds checks Index of all of the given glyphs against the chapter.
func finds(t *testing.T, cover []int, glyphs []int) {
	t.Helper()
	for _, g := range glyphs {
		want, found := indexByChapter(cover, g)
		if got, ok := Index(cover, g); got != want || ok != found {
			t.Fatalf("Index(%v, %d) = %d, %t, not %d, %t", cover, g, got, ok, want, found)
		}
	}
}

func TestP22_2AllCovers(t *testing.T) {
	lists(6, []int{0, 1, 2, 3, 4}, func(cover []int) { finds(t, cover, []int{-1, 0, 1, 2, 3, 4, 5}) })
	lists(5, []int{math.MinInt, -2, 0, 2, math.MaxInt}, func(cover []int) {
		finds(t, cover, []int{math.MinInt, math.MinInt + 1, -3, -2, -1, 0, 1, 2, 3, math.MaxInt - 1, math.MaxInt})
	})
}

func TestP22_2SomeCovers(t *testing.T) {
	next := stream()
	for range 3000 {
		glyphs := 1 + next(100)
		cover := indexed(next(100), func(int) int { return next(glyphs) })
		asked := slices.Concat(cover, []int{-1, 0, glyphs, glyphs + 1, anyInt(next)})
		finds(t, cover, asked)
		slices.Sort(cover)
		finds(t, cover, asked)
		finds(t, slices.Compact(slices.Clone(cover)), asked)
		slices.Reverse(cover)
		finds(t, cover, asked)
		finds(t, indexed(next(20), func(int) int { return anyInt(next) }), strangeInts())
	}
}

func TestP22_3ByHand(t *testing.T) {
	f := api.Font{Glyphs: []api.Info{
		{}, {Adv: 7, Kind: api.GkMark, Attach: 3}, {Adv: -1048576, Kind: api.GkBase}, {Adv: 1048576, Kind: api.GkLig, Attach: 255, Carets: []int{1, 2}},
		{Adv: math.MaxInt, Kind: math.MinInt, Attach: -1}, {Adv: math.MinInt, Kind: math.MaxInt, Attach: 256}, {Adv: -1, Kind: -1, Attach: math.MinInt}, {Kind: 4, Attach: math.MaxInt},
	}}
	for _, c := range []struct{ g, kind, attach, adv int }{
		{0, 0, 0, 0}, {1, api.GkMark, 3, 7}, {2, api.GkBase, 0, -1048576}, {3, api.GkLig, 255, 1048576},
		{4, math.MinInt, -1, math.MaxInt}, {5, math.MaxInt, 256, math.MinInt}, {6, -1, math.MinInt, -1}, {7, 4, math.MaxInt, 0},
		{-1, 0, 0, 0}, {-2, 0, 0, 0}, {-8, 0, 0, 0}, {8, 0, 0, 0}, {9, 0, 0, 0}, {16, 0, 0, 0}, {1<<32 + 1, 0, 0, 0}, {math.MaxInt, 0, 0, 0}, {math.MinInt, 0, 0, 0}, {math.MinInt + 1, 0, 0, 0}, {math.MaxInt - 1, 0, 0, 0},
	} {
		if Kind(f, c.g) != c.kind || Attach(f, c.g) != c.attach || Adv(f, c.g) != c.adv {
			t.Errorf("glyph %d: Kind %d, Attach %d, Adv %d", c.g, Kind(f, c.g), Attach(f, c.g), Adv(f, c.g))
		}
		none := api.Font{Em: 5, Maps: []api.Map{{Code: 'a', Glyph: c.g}}}
		if Kind(none, c.g) != 0 || Attach(none, c.g) != 0 || Adv(none, c.g) != 0 {
			t.Errorf("glyph %d of a font without glyphs: Kind %d, Attach %d, Adv %d", c.g, Kind(none, c.g), Attach(none, c.g), Adv(none, c.g))
		}
	}
	tellsAll(t, f)
}

// Glyphs behind the end of the list are none of the font's.
func TestP22_3BehindTheEnd(t *testing.T) {
	glyphs := slices.Repeat([]api.Info{{Adv: 9, Kind: 2, Attach: 1}}, 20)
	for n := range len(glyphs) {
		f := api.Font{Glyphs: glyphs[:n], Maps: []api.Map{{Code: 'a', Glyph: n}}}
		tellsAll(t, f)
		if Kind(f, n) != 0 || Attach(f, n) != 0 || Adv(f, n) != 0 {
			t.Errorf("glyph %d of %d: Kind %d, Attach %d, Adv %d", n, n, Kind(f, n), Attach(f, n), Adv(f, n))
		}
		if n > 0 && (Kind(f, n-1) != 2 || Attach(f, n-1) != 1 || Adv(f, n-1) != 9) {
			t.Errorf("glyph %d of %d: Kind %d, Attach %d, Adv %d", n-1, n, Kind(f, n-1), Attach(f, n-1), Adv(f, n-1))
		}
	}
	maps := mapped("a1b2c3").Maps
	gives(t, api.Font{Maps: maps[:2]}, []rune("abc"), []int{1, 2, 0}, []int{2})
	gives(t, api.Font{Maps: maps[:0]}, []rune("abc"), []int{0, 0, 0}, []int{0, 1, 2})
	if got := Codes(api.Font{Maps: maps[:2]}); !slices.Equal(got, []rune("ab")) {
		t.Errorf("Codes: %X", got)
	}
	if got, found := Index([]int{1, 2, 3}[:2], 3); got != 0 || found {
		t.Errorf("Index: %d, %t", got, found)
	}
}

func TestP22_3Codes(t *testing.T) {
	for _, c := range []struct{ maps, want string }{
		{"", ""}, {"a1", "a"}, {"a1b2", "ab"}, {"b2a1", "ba"}, {"a1a1", "aa"}, {"a1b2a3", "aba"}, {"b0b0a0c0a0", "bbaca"}, {"😀1字2א3a4", "😀字אa"},
	} {
		if got := Codes(mapped(c.maps)); !slices.Equal(got, []rune(c.want)) {
			t.Errorf("Codes of %s: %X, not %X", c.maps, got, []rune(c.want))
		}
	}
	strange := slices.Concat(strangeRunes(), plainRunes(), strangeRunes())
	f := api.Font{Maps: indexed(len(strange), func(i int) api.Map { return api.Map{Code: strange[i], Glyph: -i} })}
	if got := Codes(f); !slices.Equal(got, strange) {
		t.Errorf("Codes: %X, not %X", got, strange)
	}
	lists(5, []rune{'a', 'b', -1, math.MaxInt32}, func(codes []rune) {
		f := api.Font{Maps: indexed(len(codes), func(i int) api.Map { return api.Map{Code: codes[i]} })}
		if got := Codes(f); !slices.Equal(got, codes) {
			t.Fatalf("Codes: %X, not %X", got, codes)
		}
	})
}

func TestP22_3SomeFonts(t *testing.T) {
	next := stream()
	for range 3000 {
		tellsAll(t, someFont(next, 20, slices.Concat(plainRunes(), strangeRunes())))
		tellsAll(t, validFont(next, plainRunes()))
	}
}

func TestP22_4(t *testing.T) {
	next := stream()
	all := slices.Concat(plainRunes(), strangeRunes())
	for _, text := range []string{"", "a", "ab", "ba", "abcabc", "zyx", "אבa😀字"} {
		f := font.Plain([]rune(text), 500)
		rises(t, f, []rune(text), all, nil)
		if got := Missing(f, []rune(text)); len(got) != 0 {
			t.Errorf("%q: missing are %v", text, got)
		}
	}
	for range 3000 {
		rises(t, validFont(next, plainRunes()), some(next, next(30), all))
		text := some(next, next(30), all)
		rises(t, font.Plain(text, anyInt(next)), text, all)
	}
	rises(t, api.Font{Em: 1, Glyphs: make([]api.Info, 1)}, all)
	rises(t, api.Font{Em: 1, Glyphs: make([]api.Info, 1), Maps: []api.Map{{Code: 'a', Glyph: 0}, {Code: 'b', Glyph: 0}}}, []rune("abc"))
	f := validFont(next, plainRunes())
	f.Lookups = []api.Lookup{{Kind: api.LkSingle, Subs: []api.Sub{{Cover: []int{0}, To: [][]int{{0}}}}}}
	f.Feats, f.Sets = []api.Feat{{Tag: "liga", Lookups: []int{0}}}, [][]int{{0}}
	rises(t, f, all)
}

// What a valid font tells doesn't hang on what else is in it.
func TestP22_4OtherFields(t *testing.T) {
	next := stream()
	for range 300 {
		f := someFont(next, 12, []rune("abcd"))
		g := api.Font{Maps: f.Maps}
		text := some(next, next(12), []rune("abcde"))
		if !slices.Equal(Text(f, text), Text(g, text)) || !slices.Equal(Missing(f, text), Missing(g, text)) || !slices.Equal(Codes(f), Codes(g)) {
			t.Fatalf("the glyphs of %v change what %X is mapped to", f, text)
		}
		g = api.Font{Glyphs: f.Glyphs, Em: 7, Lookups: make([]api.Lookup, 3), Feats: make([]api.Feat, 2), Sets: make([][]int, 1)}
		for k := range len(f.Glyphs) + 1 {
			if Kind(f, k) != Kind(g, k) || Attach(f, k) != Attach(g, k) || Adv(f, k) != Adv(g, k) {
				t.Fatalf("the mappings of %v change what is told of glyph %d", f, k)
			}
		}
	}
}

func TestP22_5(t *testing.T) {
	next := stream()
	all := slices.Concat(plainRunes(), strangeRunes())
	for i := range 3000 {
		few := some(next, 1+next(8), all)
		text := some(next, next(30), append(few, 'q', -3))
		parts(t, someFont(next, []int{3, 12, 50}[i%3], few), text)
		parts(t, validFont(next, plainRunes()), some(next, next(30), all))
		parts(t, font.Plain(few, 1), text)
	}
	for _, f := range []api.Font{{}, mapped("a1b0"), mapped("b0a1"), mapped("a0a1")} {
		lists(6, []rune("abc"), func(text []rune) { parts(t, f, text) })
	}
}

// roomy returns a copy of the list with more elements in the memory behind it.
func roomy[T any](list []T, behind ...T) []T {
	return slices.Concat(list, behind, behind)[:len(list)]
}

// whole returns a copy of all memory of the list, also of the room behind it.
func whole[T any](list []T) []T { return slices.Clone(list[:cap(list)]) }

// callAll calls all functions of the package.
func callAll(f api.Font, text []rune, cover []int) {
	Text(f, text)
	Missing(f, text)
	Codes(f)
	for _, r := range text {
		Glyph(f, r)
	}
	for _, g := range cover {
		Index(cover, g)
		Kind(f, g)
		Attach(f, g)
		Adv(f, g)
	}
}

func TestR5Arguments(t *testing.T) {
	next := stream()
	for range 2000 {
		f := someFont(next, 20, []rune("abcd"))
		f.Maps = roomy(f.Maps, api.Map{Code: 'b', Glyph: 5}, api.Map{Code: 'a', Glyph: 6})
		carets := roomy([]int{3, 1, 2}, 9, 8)
		f.Glyphs = roomy(append(f.Glyphs, api.Info{Kind: 3, Carets: carets}), api.Info{Adv: 7, Kind: 1})
		text := roomy(some(next, next(12), []rune("dcbaz")), 'y', 'x')
		covers := roomy(some(next, next(12), []int{5, 3, 4, 0, -1}), 7, 6)
		maps, glyphs, lines, runes, rows := whole(f.Maps), whole(f.Glyphs), whole(carets), whole(text), whole(covers)
		callAll(f, text, covers)
		if !slices.Equal(maps, whole(f.Maps)) || !slices.Equal(lines, whole(carets)) || !slices.Equal(runes, whole(text)) || !slices.Equal(rows, whole(covers)) {
			t.Fatalf("the arguments became %v, %v, %X, %v", whole(f.Maps), whole(carets), whole(text), whole(covers))
		}
		for i, told := range whole(f.Glyphs) {
			if told.Adv != glyphs[i].Adv || told.Kind != glyphs[i].Kind || told.Attach != glyphs[i].Attach || !slices.Equal(told.Carets, glyphs[i].Carets) {
				t.Fatalf("glyph %d became %v", i, told)
			}
		}
	}
}

// Results are new memory, and stay as they are when the arguments change.
func TestR5Results(t *testing.T) {
	for _, row := range []struct{ maps, text string }{
		{"", ""}, {"a1", ""}, {"", "ab"}, {"a1b2c3", "xabcax"}, {"c3b2a1", "xabcax"}, {"a1a2", "a"}, {"a1", "bbb"}, {"a1b2", "ab"},
	} {
		f, text := mapped(row.maps), roomy([]rune(row.text), 'y', 'z')
		f.Maps = roomy(f.Maps, api.Map{Code: 'x', Glyph: 4})
		maps, runes := whole(f.Maps), whole(text)
		glyphs, missing, codes := Text(f, text), Missing(f, text), Codes(f)
		wantGlyphs, wantMissing, wantCodes := slices.Clone(glyphs), slices.Clone(missing), slices.Clone(codes)
		spoil(Text(f, text), 77)
		spoil(Missing(f, text), 77)
		spoil(Codes(f), 77)
		if !slices.Equal(maps, whole(f.Maps)) || !slices.Equal(runes, whole(text)) {
			t.Errorf("%v: the results share memory with the arguments", row)
		}
		spoil(f.Maps, api.Map{Code: 'a', Glyph: 88})
		spoil(f.Glyphs, api.Info{Adv: 88})
		spoil(text, 'w')
		if !slices.Equal(glyphs, wantGlyphs) || !slices.Equal(missing, wantMissing) || !slices.Equal(codes, wantCodes) {
			t.Errorf("%v: the results became %v, %v, %X", row, glyphs, missing, codes)
		}
	}
}

// A font that the caller changes in place is as it is at each call.
func TestR4Calls(t *testing.T) {
	f, text := mapped("c3b2a1"), []rune("abcd")
	for i := range 50 {
		for k := range f.Maps {
			f.Maps[k] = api.Map{Code: rune('a' + (i+2*k)%4), Glyph: i*k + i%2}
		}
		f.Glyphs[i%10] = api.Info{Adv: i, Kind: i % 4, Attach: i % 3}
		holds(t, f, text)
		tellsAll(t, f)
		text[i%4] = rune('a' + i%5)
		holds(t, f, text)
		checkRows(t, []handRow{{"a1b2c3", "xabcx", "01230", "04"}, {"c3b2a1", "xabcx", "01230", "04"}, {"a1a2", "ab", "10", "1"}, {"a2a1", "ab", "20", "1"}, {"", "a", "0", "0"}})
		finds(t, []int{i, 3, i}, []int{i, 3, 0})
	}
}

// A nil list is as an empty one.
func TestR6Empty(t *testing.T) {
	for _, f := range []api.Font{{}, {Glyphs: []api.Info{}, Maps: []api.Map{}}, mapped("a1")} {
		gives(t, f, nil, nil, nil)
		gives(t, f, []rune{}, nil, nil)
		tellsAll(t, f)
		if got := Missing(f, []rune("b")); !slices.Equal(got, []int{0}) {
			t.Errorf("Missing: %v", got)
		}
	}
	if got := Codes(api.Font{}); len(got) != 0 {
		t.Errorf("Codes: %X", got)
	}
}

// samples checks single code points of a text that is too long to ask for each of them.
func samples(t *testing.T, f api.Font, text []rune) {
	t.Helper()
	glyphs, missing := textByChapter(f, text)
	if !slices.Equal(Text(f, text), glyphs) || !slices.Equal(Missing(f, text), missing) {
		t.Fatalf("%d mappings, a text of %d", len(f.Maps), len(text))
	}
	for i := 0; i < len(text); i += 997 {
		if got := Glyph(f, text[i]); got != glyphs[i] {
			t.Fatalf("Glyph(%X) = %d, not %d", text[i], got, glyphs[i])
		}
	}
}

// The greatest fonts and texts.
func TestR8Long(t *testing.T) {
	next := stream()
	codes := indexed(api.MaxMaps-1, func(i int) rune { return 0x4E00 + 3*rune(i) })
	plain := font.Plain(codes, 1000)
	spread := api.Font{Em: 1, Glyphs: indexed(api.MaxGlyphs, func(i int) api.Info { return api.Info{Adv: i, Kind: i % 4, Attach: i % 256} })}
	spread.Maps = indexed(api.MaxMaps, func(i int) api.Map { return api.Map{Code: top - 4095*8 + 8*rune(i), Glyph: 4095 - i} })
	for i, f := range []api.Font{plain, spread} {
		if font.Check(f) != api.OK {
			t.Fatalf("font %d isn't valid", i)
		}
		tellsAll(t, f)
		for _, n := range []int{4096, most - 1, most} {
			samples(t, f, some(next, n, Codes(f)))
			samples(t, f, indexed(n, func(i int) rune { return rune(next(int(top) + 1)) }))
			samples(t, f, slices.Repeat(Codes(f)[len(f.Maps)-1:], n))
			samples(t, f, slices.Repeat([]rune{'?'}, n))
		}
		if got := Missing(f, Codes(f)); len(got) != 0 {
			t.Errorf("font %d: missing are %d", i, len(got))
		}
		backward := font.Clone(f)
		slices.Reverse(backward.Maps)
		samples(t, backward, some(next, most, Codes(f)))
		tellsAll(t, backward)
	}
	rises(t, plain, codes[:200])
	rises(t, spread, codes[:200])
	tangled := api.Font{Maps: indexed(most, func(i int) api.Map { return api.Map{Code: rune(next(most)), Glyph: i} })}
	samples(t, tangled, indexed(most, func(i int) rune { return rune(i) }))
	same := api.Font{Maps: indexed(most, func(i int) api.Map { return api.Map{Code: 'a', Glyph: i + 5} })}
	samples(t, same, some(next, most, []rune("ab")))
	cover := indexed(most, func(i int) int { return 2 * i })
	finds(t, cover, []int{0, 2, 3, most, most + 1, 2*most - 2, 2 * most, -1})
}

func TestExamples(t *testing.T) {
	f := font.Plain([]rune("ab"), 5)
	if Glyph(f, 'a') != 1 || Glyph(f, 'b') != 2 || Glyph(f, 'c') != 0 {
		t.Errorf("Glyph: %d, %d, %d", Glyph(f, 'a'), Glyph(f, 'b'), Glyph(f, 'c'))
	}
	if got := Missing(f, []rune("acb")); !slices.Equal(got, []int{1}) {
		t.Errorf("Missing: %v", got)
	}
	if Adv(f, 1) != 5 || Kind(f, 0) != api.GkNone || Kind(f, 1) != api.GkBase {
		t.Errorf("Adv %d, Kind %d and %d", Adv(f, 1), Kind(f, 0), Kind(f, 1))
	}
	if got, found := Index([]int{2, 5}, 5); got != 1 || !found {
		t.Errorf("Index: %d, %t", got, found)
	}
}
