package buffer

import (
	"slices"
	"testing"

	"typecase/api"
	"typecase/font"
	"typecase/grapheme"
	"typecase/props"
)

// textRow is the mappings of a font, a text, the digits of its glyphs, and the digits of where the clusters begin, all written by hand.
type textRow struct{ maps, text, ids, begins string }

// checkTexts checks New of texts of up to ten code points, from all kinds of numbers and with all kinds of masks.
func checkTexts(t *testing.T, rows []textRow) {
	t.Helper()
	for _, row := range rows {
		f, text, ids, begins := mapped(row.maps), spell(row.text), digits(row.ids), digits(row.begins)
		if len(ids) != len(text) || len(begins) != len(text) {
			t.Fatalf("%v", row)
		}
		for _, from := range []int{0, 1, 3, 4096, -1, -7, 1 << 32, -1 << 48, low, low + 1, high - 10, high - 11} {
			for _, masks := range [][]int{nil, {}, {5}, {-5}, {0, -1, 4}, {high, low}, {9, 8, 7, 6, 5, 4, 3, 2, 1, -1, -2, -3}} {
				l := makes(t, f, text, from, masks, begins)
				for i, g := range l {
					want := api.Glyph{ID: ids[i], Cluster: from + begins[i], Adv: 0, DX: 0, DY: 0, To: -1, Hang: -1, Lig: 0, Comp: 0, Mask: 0}
					if i < len(masks) {
						want.Mask = masks[i]
					}
					if g != want {
						t.Errorf("%v from %d with %v: glyph %d is %v", row, from, masks, i, g)
					}
				}
				if Wide(l) != 0 || !slices.Equal(IDs(l), ids) {
					t.Errorf("%v: Wide is %d, IDs are %v", row, Wide(l), IDs(l))
				}
			}
		}
	}
}

func TestP25_1ByHand(t *testing.T) {
	checkTexts(t, []textRow{
		{"", "", "", ""}, {"a1", "", "", ""}, {"", "a", "0", "0"}, {"a1", "a", "1", "0"}, {"a1", "b", "0", "0"}, {"a0", "a", "0", "0"}, {"a1b2", "abc", "120", "012"}, {"c1a3", "abc", "301", "012"}, {"a4", "aaaa", "4444", "0123"},
		// The same code twice: the first mapping decides.
		{"a1a2", "aa", "11", "01"}, {"a2a1", "ab", "20", "01"}, {"a0a1", "a", "0", "0"}, {"b3a1b2a9b5", "ba", "31", "01"},
		// Several code points to a cluster: at the start, inside, at the end.
		{"a1'5", "a'", "15", "00"}, {"a1'5", "a'b", "150", "002"}, {"a1'5", "ba'b", "0150", "0113"}, {"a1'5", "ba'", "015", "011"}, {"a1", "a''b''", "100000", "000333"}, {"'5", "''''", "5555", "0000"}, {"", "aa''bb", "000000", "011145"}, {"", "a'b'c'd'e'", "0000000000", "0022446688"},
		// What stands before the text is not known.
		{"'5a1", "'a", "51", "01"}, {"'5a1", "'", "5", "0"}, {"'5a1", "''a", "551", "002"}, {":6", ":", "6", "0"}, {"", "z*", "00", "01"}, {"", "t", "0", "0"},
		// CR, LF and Control.
		{"r1n2", "rn", "12", "00"}, {"", "nr", "00", "01"}, {"r1n2", "arnb", "0120", "0113"}, {"", "rrnn", "0000", "0113"}, {"s1", "as'", "010", "012"}, {"", "r'n'", "0000", "0123"}, {"", "rn'", "000", "002"},
		// Regional.
		{"F7", "F", "7", "0"}, {"F7", "FF", "77", "00"}, {"F7", "FFF", "777", "002"}, {"F7", "FFFF", "7777", "0022"}, {"F7", "aFFF", "0777", "0113"}, {"F7", "FaFF", "7077", "0122"}, {"F7", "F'FF", "7077", "0022"},
		// Prepend and Spacing.
		{"P1", "Pa", "10", "00"}, {"", "PPa", "000", "000"}, {"", "Pn", "00", "01"}, {"", "aP", "00", "01"}, {"", "P", "0", "0"}, {"", "PFF", "000", "000"}, {":1", "a:", "01", "00"}, {"", ":a:", "000", "011"}, {"", "a:'b", "0000", "0003"},
		// Hangul.
		{"l1v2t3", "lvt", "123", "000"}, {"", "lvl", "000", "002"}, {"", "ll", "00", "00"}, {"", "yt", "00", "00"}, {"", "Yv", "00", "01"}, {"", "Yt", "00", "00"}, {"", "tv", "00", "01"}, {"", "tt", "00", "00"}, {"", "vl", "00", "01"}, {"", "lyvtY", "00000", "00004"}, {"", "yy", "00", "01"},
		// Pictures.
		{"*1z2", "*z*", "121", "000"}, {"", "az*", "000", "002"}, {"", "*'z*", "0000", "0000"}, {"", "*z'*", "0000", "0003"}, {"", "*zz*", "0000", "0003"}, {"", "**", "00", "01"}, {"", "*z*z*", "00000", "00000"}, {"", "a*z", "000", "011"},
		// No code points.
		{"!1", "!", "1", "0"}, {"!1a2", "a!a", "212", "012"}, {"!1", "!!'", "110", "011"}, {"", "!", "0", "0"},
	})
}

// All fonts are taken, and of a font the mappings alone matter.
func TestP25_1Fonts(t *testing.T) {
	text := spell("a'bF!")
	for _, maps := range []string{"", "a1", "b2a1", "a1a2a3", "!1", "'3a1b2"} {
		want := makesText(t, mapped(maps), text, 5, []int{1, 2})
		for _, f := range []api.Font{
			{}, {Em: -1}, {Em: 1, Glyphs: make([]api.Info, 1)}, {Em: 1000, Glyphs: slices.Repeat([]api.Info{{Adv: 500, Kind: api.GkMark, Attach: 1}}, 20)},
			{Lookups: make([]api.Lookup, 3), Feats: make([]api.Feat, 2), Sets: make([][]int, 1)}, {Glyphs: []api.Info{{Adv: high, Kind: low, Attach: -1}}},
		} {
			f.Maps = mapped(maps).Maps
			if l := New(f, text, 5, []int{1, 2}); !slices.Equal(l, want) {
				t.Errorf("%v: %v, not %v", f, l, want)
			}
		}
	}
	for _, id := range slices.Concat(farInts(), []int{-2, -1, 0, 1, 2, 4096}) {
		f := api.Font{Maps: []api.Map{{Code: 'a', Glyph: id}, {Code: 'a', Glyph: 5}}}
		if l := makesText(t, f, []rune("ba"), 0, nil); l[1].ID != id || l[0].ID != 0 {
			t.Errorf("%d: %v", id, l)
		}
	}
	if l := New(font.Plain([]rune("abc"), 500), []rune("cbad"), 0, nil); !slices.Equal(IDs(l), []int{3, 2, 1, 0}) || Wide(l) != 0 {
		t.Errorf("%v", l)
	}
}

// Runes that are no code points are glyphs as all others are.
func TestP25_1AnyRune(t *testing.T) {
	all := slices.Concat(notCodes(), []rune{0, 'a', 0x301, 0x1F1E6, 0xFFFD, 0xFFFF, top})
	for i, r := range all {
		f := api.Font{Maps: []api.Map{{Code: r, Glyph: 8}}}
		if l := makesText(t, f, []rune{r}, -3, []int{-9}); l[0].ID != 8 || l[0].Cluster != -3 || l[0].Mask != -9 {
			t.Errorf("%X: %v", r, l)
		}
		makesText(t, api.Font{}, []rune{r, r, 'a', r}, 1, nil)
		f.Maps = append(f.Maps, api.Map{Code: all[(i+1)%len(all)], Glyph: 9})
		makesText(t, f, all, i, []int{i, -i})
	}
}

// Every number that a text may begin at; beyond the ends of the type int the chapter promises nothing, but New ends.
func TestP25_1From(t *testing.T) {
	text := spell("a'bFFFc")
	for _, from := range farInts() {
		if from <= high-6 {
			if l := makesText(t, mapped("a1b2"), text, from, nil); l[1].Cluster != from || l[6].Cluster != from+6 {
				t.Errorf("%v", l)
			}
		}
		if l := New(mapped("a1b2"), text, from, nil); len(l) != 7 || l[0].Cluster != from || l[1].Cluster != from {
			t.Errorf("%v", l)
		}
	}
	if l := makesText(t, mapped(""), spell("a''"), high, nil); l[2].Cluster != high {
		t.Errorf("%v", l)
	}
}

// All short texts, and masks of any count.
func TestP25_1Short(t *testing.T) {
	f := mapped("a1'2*3F4r5!6")
	lists(4, spell(allLetters), func(text []rune) { makesText(t, f, text, 10*len(text), nil) })
	for _, letters := range []string{"a'z*", "FaP", "lvtyY", "rns'"} {
		lists(6, spell(letters), func(text []rune) { makesText(t, f, text, -5, []int{1, 2, 3, 4}) })
	}
	for n := range 6 {
		text := spell("a'abc")[:n]
		lists(7, []int{-1, 0, 3}, func(masks []int) { makesText(t, f, text, 0, masks) })
	}
}

func TestP25_1Some(t *testing.T) {
	next := stream()
	letters := slices.Concat(spell(allLetters), notCodes(), []rune{0x5D0, 0x628, 0x4E00, top})
	for range 4000 {
		few := some(next, 1+next(10), letters)
		f := someFont(next, append(few, 'q', -3))
		masks := indexed(next(40), func(int) int { return anyInt(next) })
		makesText(t, f, some(next, next(40), few), anyInt(next)/2, masks)
	}
}

func TestP25_1IDsAndWide(t *testing.T) {
	for _, c := range []struct {
		ids, advs []int
		want      int
	}{
		{nil, nil, 0}, {[]int{0}, []int{0}, 0}, {[]int{7}, []int{9}, 9}, {[]int{-7}, []int{-9}, -9}, {[]int{1, 2, 3}, []int{10, 20, 30}, 60}, {[]int{3, 2, 2, 3}, []int{10, -20, 0, 5}, -5}, {[]int{5, 5}, []int{-1, 1}, 0},
		{[]int{high, low}, []int{high, low}, -1}, {[]int{high}, []int{high}, high}, {[]int{low, 0}, []int{low, 0}, low}, {[]int{0, low}, []int{1, low}, low + 1}, {[]int{1, 2, 3}, []int{high - 5, 3, 2}, high}, {[]int{1, 2, 3}, []int{low + 5, -3, -2}, low}, {[]int{1, 2, 3}, []int{high, -high, 4}, 4},
		{[]int{1 << 32, 1}, []int{1 << 32, 1}, 1<<32 + 1},
	} {
		l := clustered(make([]int, len(c.ids))...)
		for i := range l {
			l[i].ID, l[i].Adv = c.ids[i], c.advs[i]
		}
		if got := IDs(l); !slices.Equal(got, c.ids) {
			t.Errorf("IDs(%v) = %v", l, got)
		}
		if got := Wide(l); got != c.want {
			t.Errorf("Wide(%v) = %d, not %d", l, got, c.want)
		}
		addsUp(t, l)
	}
	// Sums that are no int: the chapter promises nothing, but Wide ends.
	for _, adv := range []int{low, high, high / 2, low / 2} {
		Wide([]api.Glyph{{Adv: adv}, {Adv: adv}, {Adv: adv}, {Adv: adv}})
	}
	next := stream()
	for range 3000 {
		l := someBuffer(next, next(60), next(3), []int{-1, 0, 5})
		addsUp(t, l)
		tells(t, l)
		if len(l) > 0 {
			l[next(len(l))].Adv = some(next, 1, []int{high - 1<<20, low + 1<<20, 1 << 40})[0]
			addsUp(t, l)
		}
	}
}

// putRow is the Clusters of a buffer, what Replace is asked for, and what comes out: a letter for each glyph that was there, from a on, and the digit of each new one; and the Clusters.
type putRow struct {
	clusters string
	at, n    int
	ids      string
	want     string
	becomes  string
}

func checkPuts(t *testing.T, rows []putRow) {
	t.Helper()
	for _, row := range rows {
		clusters := digits(row.becomes)
		if len(clusters) != len(row.want) {
			t.Fatalf("%v", row)
		}
		for _, l := range [][]api.Glyph{clustered(digits(row.clusters)...), loose(clustered(digits(row.clusters)...))} {
			var want []api.Glyph
			for i, letter := range row.want {
				var g api.Glyph
				if letter >= 'a' {
					g = l[letter-'a']
				} else {
					g = api.Glyph{ID: int(letter - '0'), To: -1, Hang: -1, Lig: l[row.at].Lig, Comp: l[row.at].Comp, Mask: l[row.at].Mask}
				}
				g.Cluster = clusters[i]
				want = append(want, g)
			}
			for _, ids := range [][]int{digits(row.ids), append([]int{}, digits(row.ids)...)} {
				if got := replaces(t, l, row.at, row.n, ids); !slices.Equal(got, want) {
					t.Errorf("%v: %v, not %v", row, got, want)
				}
			}
		}
	}
}

func TestP25_2ByHand(t *testing.T) {
	checkPuts(t, []putRow{
		// One for one.
		{"0", 0, 1, "5", "5", "0"}, {"012", 0, 1, "5", "5bc", "012"}, {"012", 1, 1, "5", "a5c", "012"}, {"012", 2, 1, "5", "ab5", "012"}, {"000", 1, 1, "5", "a5c", "000"}, {"210", 1, 1, "5", "a5c", "210"},
		// Fewer, as many, more.
		{"012", 0, 2, "5", "5c", "02"}, {"012", 1, 2, "5", "a5", "01"}, {"012", 0, 3, "5", "5", "0"}, {"012", 0, 3, "56", "56", "00"}, {"01234", 1, 3, "56", "a56e", "0114"}, {"012", 0, 2, "56", "56c", "002"}, {"012", 0, 3, "567", "567", "000"}, {"012", 1, 2, "55", "a55", "011"},
		{"012", 1, 1, "567", "a567c", "01112"}, {"012", 2, 1, "56", "ab56", "0122"}, {"012", 0, 1, "56", "56bc", "0012"}, {"0", 0, 1, "56789", "56789", "00000"}, {"012", 0, 3, "9876", "9876", "0000"}, {"012", 1, 2, "00000", "a00000", "011111"},
		// The minimum first, inside and last, of these glyphs alone.
		{"345", 0, 3, "5", "5", "3"}, {"543", 0, 3, "5", "5", "3"}, {"333", 0, 3, "5", "5", "3"}, {"435", 0, 3, "56", "56", "33"}, {"534", 0, 3, "56", "56", "33"}, {"4351", 0, 3, "56", "56d", "331"}, {"1543", 1, 3, "5", "a5", "13"}, {"0543", 1, 2, "5", "a5d", "043"}, {"5430", 0, 3, "5", "5d", "30"}, {"2413", 1, 2, "56", "a56d", "2113"}, {"2143", 1, 2, "56", "a56d", "2113"},
		// Those beside them don't change, whatever they share.
		{"0111", 1, 1, "5", "a5cd", "0111"}, {"2211", 1, 2, "5", "a5d", "211"}, {"2221", 2, 2, "56", "ab56", "2211"}, {"1222", 0, 2, "5", "5cd", "122"}, {"1222", 0, 3, "56", "56d", "112"}, {"0122", 0, 2, "5", "5cd", "022"},
	})
}

func TestP25_2NoIDs(t *testing.T) {
	checkPuts(t, []putRow{
		// Nothing behind.
		{"0", 0, 1, "", "", ""}, {"012", 2, 1, "", "ab", "01"}, {"012", 0, 3, "", "", ""}, {"012", 1, 2, "", "a", "0"}, {"2221", 2, 2, "", "ab", "22"}, {"2210", 2, 2, "", "ab", "22"},
		// What follows gets the Cluster, with all that shares its own.
		{"01", 0, 1, "", "b", "0"}, {"012", 1, 1, "", "ac", "01"}, {"012", 0, 1, "", "bc", "02"}, {"012", 0, 2, "", "c", "0"}, {"122", 0, 1, "", "bc", "11"}, {"0122", 1, 1, "", "acd", "011"}, {"01223", 1, 1, "", "acde", "0113"}, {"012222", 1, 1, "", "acdef", "01111"}, {"0123", 0, 2, "", "cd", "03"}, {"013222", 1, 2, "", "adef", "0111"},
		// Not those that have the same Cluster but are not connected.
		{"012232", 1, 1, "", "acdef", "01132"}, {"0121", 0, 1, "", "bcd", "021"}, {"0131", 0, 1, "", "bcd", "031"}, {"01101", 0, 1, "", "bcde", "0001"}, {"2012012", 1, 1, "", "acdefg", "202012"},
		// The Cluster of the glyph behind is the minimum, or less.
		{"0112", 1, 1, "", "acd", "012"}, {"01122", 1, 1, "", "acde", "0122"}, {"000", 0, 1, "", "bc", "00"}, {"000", 1, 1, "", "ac", "00"}, {"1333", 1, 1, "", "acd", "133"}, {"1343", 1, 2, "", "ad", "13"}, {"31133", 0, 2, "", "cde", "133"},
		{"3211", 0, 1, "", "bcd", "211"}, {"32", 0, 1, "", "b", "2"}, {"5411", 0, 2, "", "cd", "11"}, {"0321", 1, 2, "", "ad", "01"}, {"43325", 0, 1, "", "bcde", "3325"},
		// It was one with what is gone.
		{"1344", 1, 2, "", "ad", "13"}, {"1222", 0, 2, "", "cd", "11"}, {"01222", 1, 2, "", "ade", "011"}, {"0323", 1, 2, "", "ad", "02"}, {"12222", 0, 4, "", "e", "1"},
		// The minimum first, inside and last.
		{"1239", 0, 3, "", "d", "1"}, {"2139", 0, 3, "", "d", "1"}, {"3219", 0, 3, "", "d", "1"}, {"03219", 1, 3, "", "ae", "01"}, {"011199", 1, 3, "", "aef", "011"},
		// Those before stay, also where they share a cluster with what is gone.
		{"2213", 2, 1, "", "abd", "221"}, {"2223", 2, 1, "", "abd", "222"}, {"11223", 1, 2, "", "ade", "113"}, {"3313", 1, 2, "", "ad", "31"}, {"33133", 2, 1, "", "abde", "3311"},
	})
}

func TestP25_2Nowhere(t *testing.T) {
	for _, clusters := range []string{"", "0", "01", "012", "210", "111", "0112"} {
		l := clustered(digits(clusters)...)
		n := len(l)
		for _, place := range [][2]int{
			{-1, 0}, {-1, 1}, {-1, 2}, {-1, n}, {-1, n + 1}, {-2, 2}, {-2, 3}, {-n, n}, {-n, 2 * n}, {0, -1}, {0, 0}, {0, n + 1}, {0, n + 2}, {0, 2*n + 1}, {1, -1}, {1, 0}, {1, n}, {1, n + 1},
			{n, -n - 1}, {n, -n}, {n, -1}, {n, 0}, {n, 1}, {n, 2}, {n + 1, -n - 1}, {n + 1, -n}, {n + 1, -2}, {n + 1, -1}, {n + 1, 0}, {n + 1, 1}, {n - 1, 2}, {n - 1, 3}, {n - 1, 0}, {n - 1, -1},
			{low, low}, {low, -1}, {low, 0}, {low, 1}, {low, high}, {low + 1, high}, {low, n}, {high, low}, {high, low + 1}, {high, low + 2}, {high, -1}, {high, 0}, {high, 1}, {high, 2}, {high, high},
			{-1, high}, {0, high}, {1, high}, {n, high}, {0, low}, {1, low}, {n, low}, {-1, low}, {high - 1, 1}, {high - 1, 2}, {1, high - 1}, {2, high - 1}, {high, 1 - high}, {high, 2 - high}, {high - 1, 2 - high}, {1 << 32, 1}, {0, 1 << 32}, {0, 1<<32 + 1}, {1 << 62, 1 << 62}, {1 << 62, 1<<62 + 1},
		} {
			for _, ids := range [][]int{nil, {}, {5}, {5, 6}, digits("56789")} {
				if got := replaces(t, l, place[0], place[1], ids); !slices.Equal(got, l) {
					t.Errorf("Replace(%v, %v, %v) = %v", l, place, ids, got)
				}
			}
		}
		for _, at := range slices.Concat(farInts(), []int{-2, -1, 0, 1, 2, 3, 4, 5}) {
			for _, count := range slices.Concat(farInts(), []int{-2, -1, 0, 1, 2, 3, 4, 5}) {
				replaces(t, l, at, count, nil)
				replaces(t, l, at, count, []int{7})
			}
		}
	}
}

// Mask, Lig and Comp are those of the first glyph, To and Hang of the other ones stay as they are; all ten fields written out.
func TestP25_2Fields(t *testing.T) {
	l := []api.Glyph{
		{ID: 1, Cluster: 4, Adv: 11, DX: 12, DY: 13, To: 1, Hang: 2, Lig: 14, Comp: 15, Mask: 16},
		{ID: 2, Cluster: 6, Adv: 21, DX: 22, DY: 23, To: 0, Hang: 3, Lig: 24, Comp: 25, Mask: 26},
		{ID: 3, Cluster: 5, Adv: 31, DX: 32, DY: 33, To: 2, Hang: 1, Lig: 34, Comp: 35, Mask: 36},
		{ID: 4, Cluster: 9, Adv: -41, DX: -42, DY: -43, To: 3, Hang: 0, Lig: -44, Comp: -45, Mask: -46},
		{ID: -5, Cluster: 9, Adv: 0, DX: 0, DY: 0, To: 9, Hang: -2, Lig: low, Comp: high, Mask: -1},
	}
	want := []api.Glyph{
		{ID: 1, Cluster: 4, Adv: 11, DX: 12, DY: 13, To: 1, Hang: 2, Lig: 14, Comp: 15, Mask: 16},
		{ID: 70, Cluster: 5, Adv: 0, DX: 0, DY: 0, To: -1, Hang: -1, Lig: 24, Comp: 25, Mask: 26},
		{ID: -80, Cluster: 5, Adv: 0, DX: 0, DY: 0, To: -1, Hang: -1, Lig: 24, Comp: 25, Mask: 26},
		{ID: 0, Cluster: 5, Adv: 0, DX: 0, DY: 0, To: -1, Hang: -1, Lig: 24, Comp: 25, Mask: 26},
		{ID: 4, Cluster: 9, Adv: -41, DX: -42, DY: -43, To: 3, Hang: 0, Lig: -44, Comp: -45, Mask: -46},
		{ID: -5, Cluster: 9, Adv: 0, DX: 0, DY: 0, To: 9, Hang: -2, Lig: low, Comp: high, Mask: -1},
	}
	if got := replaces(t, l, 1, 2, []int{70, -80, 0}); !slices.Equal(got, want) {
		t.Errorf("%v, not %v", got, want)
	}
	want = []api.Glyph{l[0], l[3], l[4]}
	want[1].Cluster, want[2].Cluster = 5, 5
	if got := replaces(t, l, 1, 2, nil); !slices.Equal(got, want) {
		t.Errorf("%v, not %v", got, want)
	}
	want = []api.Glyph{l[0], l[1], {ID: high, Cluster: 5, To: -1, Hang: -1, Lig: 34, Comp: 35, Mask: 36}, {ID: low, Cluster: 5, To: -1, Hang: -1, Lig: 34, Comp: 35, Mask: 36}}
	if got := replaces(t, l, 2, 3, []int{high, low}); !slices.Equal(got, want) {
		t.Errorf("%v, not %v", got, want)
	}
}

// To and Hang of the others stay, whatever they lead to: before, into and behind the place.
func TestP25_2Links(t *testing.T) {
	for _, link := range slices.Concat(farInts(), []int{-3, -2, -1, 0, 1, 2, 3, 4, 5, 6, 7}) {
		l := linked([2]int{link, -1}, [2]int{-1, link}, [2]int{link, link}, [2]int{link, 0}, [2]int{4, link}, [2]int{link, 2})
		for _, ids := range [][]int{nil, {5}, {5, 6, 7}} {
			for at := range l {
				for n := 1; at+n <= len(l); n++ {
					got := replaces(t, l, at, n, ids)
					others := slices.Concat(got[:at], got[at+len(ids):])
					for i, was := range slices.Concat(l[:at], l[at+n:]) {
						if now := others[i]; now.To != was.To || now.Hang != was.Hang {
							t.Errorf("Replace(%v, %d, %d, %v) = %v", l, at, n, ids, got)
						}
					}
				}
			}
		}
	}
}

// All short buffers, at all places and beside them.
func TestP25_2And3Short(t *testing.T) {
	lists(5, []int{0, 1, 2}, func(clusters []int) {
		holds(t, clustered(clusters...), nil, []int{5}, []int{5, 6}, []int{5, 6, 7})
	})
	lists(4, []int{-1, 0, 3, 7}, func(clusters []int) {
		holds(t, loose(clustered(clusters...)), nil, []int{5}, []int{5, 6})
	})
	lists(3, []int{low, low + 1, 0, high - 1, high}, func(clusters []int) {
		holds(t, clustered(clusters...), nil, []int{5})
	})
	lists(6, []int{0, 1}, func(clusters []int) {
		holds(t, clustered(clusters...), nil, []int{low, high, 0})
	})
}

// mergeRow is the Clusters of a buffer, a range, and what the Clusters become.
type mergeRow struct {
	clusters string
	from, to int
	becomes  string
}

func TestP25_3ByHand(t *testing.T) {
	for _, row := range []mergeRow{
		// One glyph.
		{"0", 0, 1, "0"}, {"012", 0, 1, "012"}, {"012", 1, 2, "012"}, {"012", 2, 3, "012"}, {"111", 1, 2, "111"}, {"2112", 1, 2, "2112"}, {"210", 1, 2, "210"},
		// All of it; the minimum first, inside, last.
		{"012", 0, 3, "000"}, {"210", 0, 3, "000"}, {"120", 0, 3, "000"}, {"102", 0, 3, "000"}, {"201", 0, 3, "000"}, {"333", 0, 3, "333"}, {"1234", 0, 3, "1114"}, {"3124", 0, 3, "1114"}, {"3214", 0, 3, "1114"}, {"0321", 1, 4, "0111"}, {"0123", 1, 3, "0113"}, {"5234", 1, 4, "5222"}, {"9347", 1, 3, "9337"},
		// What shares a cluster with the first one, and what doesn't.
		{"0112", 2, 4, "0111"}, {"0111", 2, 4, "0111"}, {"2210", 1, 3, "1110"}, {"22210", 2, 4, "11110"}, {"32210", 2, 4, "31110"}, {"23221", 3, 5, "23111"}, {"22321", 2, 5, "22111"}, {"12221", 3, 5, "11111"}, {"232221", 4, 6, "231111"},
		// With the last one.
		{"0122", 1, 3, "0111"}, {"01223", 0, 3, "00003"}, {"012232", 0, 3, "000032"}, {"10223", 1, 3, "10003"}, {"012222", 1, 3, "011111"}, {"122322", 0, 2, "111322"}, {"2110", 0, 2, "1110"}, {"3122", 0, 3, "1111"}, {"0211", 0, 2, "0011"},
		// With both.
		{"22133", 1, 4, "11111"}, {"422133354", 2, 5, "411111154"}, {"222333", 2, 4, "222222"}, {"322333", 2, 4, "322222"}, {"232333", 2, 4, "232222"}, {"1122233", 3, 4, "1122233"}, {"333222", 2, 4, "222222"}, {"2332", 1, 3, "2332"}, {"32123", 1, 4, "31113"}, {"33211233", 1, 7, "11111111"}, {"13323312", 2, 5, "12222212"},
	} {
		for _, l := range [][]api.Glyph{clustered(digits(row.clusters)...), loose(clustered(digits(row.clusters)...))} {
			want := slices.Clone(l)
			for i, cluster := range digits(row.becomes) {
				want[i].Cluster = cluster
			}
			if got := merges(t, l, row.from, row.to); !slices.Equal(got, want) {
				t.Errorf("%v: %v, not %v", row, got, want)
			}
		}
	}
}

func TestP25_3Nowhere(t *testing.T) {
	for _, clusters := range []string{"", "0", "01", "012", "210", "111", "0112"} {
		l := clustered(digits(clusters)...)
		n := len(l)
		for _, place := range [][2]int{
			{-1, -1}, {-1, 0}, {-1, 1}, {-1, n}, {-1, n + 1}, {-2, -1}, {0, 0}, {1, 1}, {n, n}, {n + 1, n + 1}, {1, 0}, {n, 0}, {n, 1}, {n, n - 1}, {0, -1}, {0, n + 1}, {n - 1, n + 1}, {n, n + 1}, {n + 1, n}, {n + 1, n + 2}, {n + 1, 0},
			{low, low}, {low, -1}, {low, 0}, {low, 1}, {low, n}, {low, high}, {high, low}, {high, 0}, {high, n}, {high, high}, {high - 1, high}, {-1, high}, {0, high}, {n, high}, {0, low}, {n, low}, {0, 1 << 32}, {0, 1<<32 + 1}, {1 << 32, 1<<32 + 1}, {-1 << 32, 1},
		} {
			if got := merges(t, l, place[0], place[1]); !slices.Equal(got, l) {
				t.Errorf("Merge(%v, %v) = %v", l, place, got)
			}
		}
		for _, from := range slices.Concat(farInts(), []int{-2, -1, 0, 1, 2, 3, 4, 5}) {
			for _, to := range slices.Concat(farInts(), []int{-2, -1, 0, 1, 2, 3, 4, 5}) {
				merges(t, l, from, to)
			}
		}
	}
}

// All other fields stay.
func TestP25_3Fields(t *testing.T) {
	l := []api.Glyph{
		{ID: 1, Cluster: 6, Adv: 11, DX: 12, DY: 13, To: 1, Hang: 2, Lig: 14, Comp: 15, Mask: 16},
		{ID: 2, Cluster: 6, Adv: 21, DX: 22, DY: 23, To: 0, Hang: 3, Lig: 24, Comp: 25, Mask: 26},
		{ID: 3, Cluster: 5, Adv: -31, DX: -32, DY: -33, To: 9, Hang: -2, Lig: -34, Comp: low, Mask: high},
		{ID: 4, Cluster: 7, Adv: 41, DX: 42, DY: 43, To: -1, Hang: -1, Lig: 44, Comp: 45, Mask: 46},
	}
	want := []api.Glyph{
		{ID: 1, Cluster: 5, Adv: 11, DX: 12, DY: 13, To: 1, Hang: 2, Lig: 14, Comp: 15, Mask: 16},
		{ID: 2, Cluster: 5, Adv: 21, DX: 22, DY: 23, To: 0, Hang: 3, Lig: 24, Comp: 25, Mask: 26},
		{ID: 3, Cluster: 5, Adv: -31, DX: -32, DY: -33, To: 9, Hang: -2, Lig: -34, Comp: low, Mask: high},
		{ID: 4, Cluster: 7, Adv: 41, DX: 42, DY: 43, To: -1, Hang: -1, Lig: 44, Comp: 45, Mask: 46},
	}
	if got := merges(t, l, 1, 3); !slices.Equal(got, want) {
		t.Errorf("%v, not %v", got, want)
	}
}

func TestP25_4Turn(t *testing.T) {
	for _, c := range []struct{ links, want [][2]int }{
		{nil, nil},
		{[][2]int{{-1, -1}}, [][2]int{{-1, -1}}}, {[][2]int{{0, 0}}, [][2]int{{0, 0}}}, {[][2]int{{1, -2}}, [][2]int{{1, -2}}}, {[][2]int{{low, high}}, [][2]int{{low, high}}}, {[][2]int{{high, low}}, [][2]int{{high, low}}}, {[][2]int{{0, -1}}, [][2]int{{0, -1}}}, {[][2]int{{-1, 0}}, [][2]int{{-1, 0}}},
		{[][2]int{{-1, -1}, {0, 1}}, [][2]int{{1, 0}, {-1, -1}}}, {[][2]int{{1, 0}, {-1, -1}}, [][2]int{{-1, -1}, {0, 1}}}, {[][2]int{{2, -2}, {1, 2}}, [][2]int{{0, 2}, {2, -2}}}, {[][2]int{{0, 3}, {low, 0}}, [][2]int{{low, 1}, {1, 3}}}, {[][2]int{{high, 1}, {1, low + 1}}, [][2]int{{0, low + 1}, {high, 0}}},
		{[][2]int{{2, -1}, {-1, 0}, {1, 3}}, [][2]int{{1, 3}, {-1, 2}, {0, -1}}}, {[][2]int{{0, 1}, {1, 2}, {2, 0}}, [][2]int{{0, 2}, {1, 0}, {2, 1}}}, {[][2]int{{3, 2}, {-2, 1}, {4, 0}}, [][2]int{{4, 2}, {-2, 1}, {3, 0}}}, {[][2]int{{-3, high - 1}, {low, low + 2}, {1 << 32, 1<<32 + 1}}, [][2]int{{1 << 32, 1<<32 + 1}, {low, low + 2}, {-3, high - 1}}},
		{[][2]int{{3, -1}, {2, -1}, {1, -1}, {0, -1}}, [][2]int{{3, -1}, {2, -1}, {1, -1}, {0, -1}}}, {[][2]int{{-1, 1}, {-1, 2}, {-1, 3}, {-1, 4}}, [][2]int{{-1, 4}, {-1, 0}, {-1, 1}, {-1, 2}}},
	} {
		l := linked(c.links...)
		got := Turn(l)
		if len(got) != len(l) || len(c.want) != len(l) {
			t.Fatalf("Turn(%v) = %v", l, got)
		}
		for i, link := range c.want {
			want := l[len(l)-1-i]
			want.To, want.Hang = link[0], link[1]
			if got[i] != want {
				t.Errorf("Turn(%v) = %v: glyph %d is not %v", l, got, i, want)
			}
		}
		tells(t, l)
	}
	if got := Turn(clustered(5, 3, 4)); got[0].Cluster != 4 || got[1].Cluster != 3 || got[2].Cluster != 5 || !slices.Equal(IDs(got), []int{'c', 'b', 'a'}) {
		t.Errorf("%v", got)
	}
}

func TestP25_4Links(t *testing.T) {
	links := slices.Concat(farInts(), []int{-3, -2, -1, 0, 1, 2, 3, 4, 5, 6})
	for n := 1; n <= 5; n++ {
		for _, to := range links {
			for _, hang := range links {
				for at := range n {
					l := loose(clustered(make([]int, n)...))
					l[at].To, l[at].Hang = to, hang
					tells(t, l)
					want := to >= -1 && to < n && hang >= -1 && hang < n
					if Right(l) != want {
						t.Errorf("Right(%v) = %t", l, Right(l))
					}
					l[0].Cluster = -1
					if Right(l) != want {
						t.Errorf("Right(%v) = %t", l, Right(l))
					}
					l[0].Cluster = 1
					if Right(l) != (want && n == 1) {
						t.Errorf("Right(%v) = %t", l, Right(l))
					}
				}
			}
		}
	}
	for n := 1; n <= 3; n++ {
		lists(2*n, []int{-2, -1, 0, 1, 2, 3}, func(list []int) {
			if len(list) == 2*n {
				tells(t, linked(indexed(n, func(i int) [2]int { return [2]int(list[2*i:]) })...))
			}
		})
	}
}

func TestP25_4Groups(t *testing.T) {
	for _, c := range []struct {
		clusters string
		ends     string
	}{
		{"", ""}, {"0", "1"}, {"7", "1"}, {"00", "2"}, {"01", "12"}, {"10", "12"}, {"000", "3"}, {"012", "123"}, {"210", "123"}, {"002", "23"}, {"022", "13"}, {"020", "123"}, {"0200", "124"}, {"00200", "235"}, {"1100011", "257"}, {"0101", "1234"}, {"111222333", "369"}, {"999", "3"},
	} {
		l := clustered(digits(c.clusters)...)
		var want []api.Cut
		from := 0
		for _, end := range digits(c.ends) {
			want = append(want, api.Cut{From: from, To: end})
			from = end
		}
		if got := Groups(l); !slices.Equal(got, want) {
			t.Errorf("Groups of %s: %v, not %v", c.clusters, got, want)
		}
		tells(t, l)
	}
	if got := Groups(clustered(low, low, high, high, -1, 0)); !slices.Equal(got, []api.Cut{{From: 0, To: 2}, {From: 2, To: 4}, {From: 4, To: 5}, {From: 5, To: 6}}) {
		t.Errorf("%v", got)
	}
	if got := Groups(clustered(0, 1<<32, 1<<32+1)); len(got) != 3 {
		t.Errorf("%v", got)
	}
}

func TestP25_4Right(t *testing.T) {
	for _, c := range []struct {
		clusters []int
		want     bool
	}{
		{nil, true}, {[]int{0}, true}, {[]int{-5}, true}, {[]int{0, 0}, true}, {[]int{0, 1}, true}, {[]int{1, 0}, false}, {[]int{0, 0, 0}, true}, {[]int{1, 0, 2}, false}, {[]int{0, 2, 1}, false}, {[]int{0, 1, 2}, true}, {[]int{2, 1, 0}, false}, {[]int{0, 0, 5, 5, 9}, true},
		{[]int{1, 0, 0, 0, 0}, false}, {[]int{0, 1, 0, 1, 1}, false}, {[]int{0, 0, 1, 0, 0}, false}, {[]int{0, 0, 0, 1, 0}, false}, {[]int{3, 1, 2, 3, 4}, false}, {[]int{1, 2, 3, 4, 3}, false}, {[]int{-2, -1, 0}, true}, {[]int{0, -1}, false}, {[]int{low, high}, true}, {[]int{high, low}, false}, {[]int{low, low, 0, high, high}, true}, {[]int{high - 1, high, high - 1}, false}, {[]int{1, 1 << 32}, true}, {[]int{1<<32 + 1, 1 << 32}, false},
	} {
		l := loose(clustered(c.clusters...))
		if got := Right(l); got != c.want {
			t.Errorf("Right of %v: %t", c.clusters, got)
		}
		tells(t, l)
	}
	for _, c := range []struct {
		links [][2]int
		want  bool
	}{
		{[][2]int{{0, 0}}, true}, {[][2]int{{-1, 0}}, true}, {[][2]int{{0, -1}}, true}, {[][2]int{{1, -1}}, false}, {[][2]int{{-1, 1}}, false}, {[][2]int{{-2, -1}}, false}, {[][2]int{{-1, -2}}, false}, {[][2]int{{low, 0}}, false}, {[][2]int{{0, low}}, false}, {[][2]int{{high, 0}}, false}, {[][2]int{{0, high}}, false},
		{[][2]int{{1, 0}, {0, 1}}, true}, {[][2]int{{2, 0}, {0, 1}}, false}, {[][2]int{{1, 2}, {0, 1}}, false}, {[][2]int{{1, 0}, {2, 1}}, false}, {[][2]int{{1, 0}, {0, 2}}, false}, {[][2]int{{1, 0}, {-2, 1}}, false}, {[][2]int{{1, 0}, {0, -2}}, false}, {[][2]int{{2, 2}, {2, 2}, {2, 2}}, true}, {[][2]int{{2, 2}, {2, 2}, {2, 3}}, false},
	} {
		l := linked(c.links...)
		if got := Right(l); got != c.want {
			t.Errorf("Right of %v: %t", c.links, got)
		}
	}
}

// Any buffers, fonts and places: those that are right, and others.
func TestP25_5And6Some(t *testing.T) {
	next := stream()
	letters := slices.Concat(spell(allLetters), notCodes())
	right, plain, wrong := 0, 0, 0
	for i := range 6000 {
		l := New(someFont(next, letters), some(next, next(20), letters), anyInt(next)/2, some(next, next(20), []int{0, 1, -1, 6}))
		n := next(20)
		switch i % 4 {
		case 1:
			l = someBuffer(next, n, 1+next(3), []int{-1})
		case 2:
			l = someBuffer(next, n, 1+next(3), []int{-1, 0, n / 2, n - 1})
		case 3:
			l = someBuffer(next, n, 0, []int{-1, 0, 3, n - 1, n, -2, high})
		}
		for range 8 {
			tells(t, l)
			stays(t, l)
			switch {
			case isPlain(l):
				plain++
			case Right(l):
				right++
			default:
				wrong++
			}
			from := next(len(l)+3) - 1
			to := from + next(5) - 1
			merges(t, l, from, to)
			ids := indexed(next(4), func(int) int { return anyInt(next) })
			if next(2) == 0 {
				l = replaces(t, l, from, to-from, ids)
			} else {
				l = merges(t, l, from, to)
			}
		}
	}
	if right < 5000 || plain < 5000 || wrong < 5000 {
		t.Errorf("%d buffers are right and %d lead to no glyph, %d are not right", right, plain, wrong)
	}
}

// Longer buffers, with the same Cluster often again.
func TestP25_5And6Longer(t *testing.T) {
	next := stream()
	for i := range 400 {
		l := someBuffer(next, 100+next(300), i%3, []int{-1, -1, 0, 99, 100, 400})
		if i%2 == 0 {
			l = loose(l)
		}
		tells(t, l)
		addsUp(t, l)
		for range 10 {
			from := next(len(l) + 1)
			to := from + next(20)
			merges(t, l, from, to)
			replaces(t, l, from, to-from, nil)
			replaces(t, l, from, to-from, indexed(next(30), func(int) int { return anyInt(next) }))
		}
	}
}

func TestR5Arguments(t *testing.T) {
	next := stream()
	for i := range 4000 {
		f := someFont(next, spell(allLetters))
		f.Maps = roomy(f.Maps, api.Map{Code: 'b', Glyph: 5})
		text := roomy(some(next, next(12), spell(allLetters)), 'y')
		masks, ids := roomy(some(next, next(12), []int{1, 2, 4}), 8), roomy(some(next, next(5), []int{5, 6, 7}), 9)
		l := roomy(someBuffer(next, next(12), i%3, []int{-1, 0, 2, 5}), api.Glyph{ID: 77, Cluster: next(4)})
		maps, runes, bits, codes, glyphs := whole(f.Maps), whole(text), whole(masks), whole(ids), whole(l)
		New(f, text, 3, masks)
		for from := -1; from <= len(l)+1; from++ {
			for n := -1; n <= len(l)+1; n++ {
				Replace(l, from, n, ids)
				Replace(l, from, n, ids[:0])
				Merge(l, from, from+n)
			}
		}
		Turn(l)
		Groups(l)
		Wide(l)
		Right(l)
		IDs(l)
		if !slices.Equal(maps, whole(f.Maps)) || !slices.Equal(runes, whole(text)) || !slices.Equal(bits, whole(masks)) || !slices.Equal(codes, whole(ids)) || !slices.Equal(glyphs, whole(l)) {
			t.Fatalf("the arguments became %v, %X, %v, %v, %v", whole(f.Maps), whole(text), whole(masks), whole(ids), whole(l))
		}
	}
}

// Results are new memory, also where the buffer does not change, and stay as they are when the arguments change.
func TestR5Results(t *testing.T) {
	other := api.Glyph{ID: 99, Cluster: -99, Adv: 99, To: 99, Hang: 99, Lig: 99, Comp: 99, Mask: 99}
	for _, clusters := range [][]int{nil, {}, {0}, {0, 1}, {1, 1}, {0, 1, 2, 2}, {3, 2, 2, 5}} {
		l := roomy(clustered(clusters...), api.Glyph{ID: 77})
		ids := roomy([]int{5, 6}, 7)
		calls := []func() []api.Glyph{func() []api.Glyph { return Turn(l) }}
		for from := -1; from <= len(l)+1; from++ {
			for n := -1; n <= len(l)+1; n++ {
				calls = append(calls,
					func() []api.Glyph { return Merge(l, from, from+n) },
					func() []api.Glyph { return Replace(l, from, n, nil) },
					func() []api.Glyph { return Replace(l, from, n, ids) },
				)
			}
		}
		glyphs := whole(l)
		for i, call := range calls {
			spoil(call(), other)
			if !slices.Equal(whole(l), glyphs) || !slices.Equal(ids, []int{5, 6}) {
				t.Fatalf("call %d shares memory with %v, %v", i, whole(l), ids)
			}
			got, want := call(), call()
			spoil(l, other)
			spoil(ids, 88)
			if !slices.Equal(got, want) {
				t.Fatalf("call %d: the result became %v, not %v", i, got, want)
			}
			copy(memory(l), glyphs)
			copy(ids, []int{5, 6})
			first := call()
			spoil(call(), other)
			if !slices.Equal(first, want) {
				t.Fatalf("call %d: the results share memory", i)
			}
		}
		groups, numbers := Groups(l), IDs(l)
		wantGroups, wantNumbers := slices.Clone(groups), slices.Clone(numbers)
		spoil(Groups(l), api.Cut{From: 99, To: 99})
		spoil(IDs(l), 99)
		if !slices.Equal(whole(l), glyphs) {
			t.Fatalf("the buffer became %v", whole(l))
		}
		spoil(l, other)
		if !slices.Equal(groups, wantGroups) || !slices.Equal(numbers, wantNumbers) {
			t.Fatalf("the results became %v and %v", groups, numbers)
		}
	}
}

func TestR5New(t *testing.T) {
	for _, letters := range []string{"", "a", "a'b", "FFF!", "rn*z*"} {
		f, text, masks := mapped("a1b2F3"), roomy(spell(letters), 'y'), roomy([]int{1, 2}, 3)
		f.Maps = roomy(f.Maps, api.Map{Code: 'x', Glyph: 4})
		maps, runes, bits := whole(f.Maps), whole(text), whole(masks)
		l, want := New(f, text, 4, masks), New(f, text, 4, masks)
		spoil(New(f, text, 4, masks), api.Glyph{ID: 99})
		if !slices.Equal(maps, whole(f.Maps)) || !slices.Equal(runes, whole(text)) || !slices.Equal(bits, whole(masks)) {
			t.Errorf("%s: the results share memory with the arguments", letters)
		}
		spoil(f.Maps, api.Map{Code: 'a', Glyph: 88})
		spoil(f.Glyphs, api.Info{Adv: 88})
		spoil(text, 'w')
		spoil(masks, 88)
		if !slices.Equal(l, want) {
			t.Errorf("%s: the result became %v, not %v", letters, l, want)
		}
	}
}

// What a call answers doesn't hang on those before it: a buffer, a font and lists that the caller changes in place are as they are at each call.
func TestR4Calls(t *testing.T) {
	f, text, masks := mapped("c3b2a1"), spell("a'bc"), []int{1, 2, 3}
	l := loose(clustered(0, 0, 1, 2, 2))
	for i := range 60 {
		for k := range f.Maps {
			f.Maps[k] = api.Map{Code: rune('a' + (i+2*k)%4), Glyph: i*k + i%2}
		}
		text[i%4] = spell(allLetters)[i%len(allLetters)]
		masks[i%3] = i
		makesText(t, f, text, i, masks)
		l[i%5].Cluster, l[i%5].Adv, l[(i+1)%5].To, l[(i+2)%5].Hang = i%4, i, i%6-1, i%8-2
		holds(t, l, nil, []int{i}, []int{i, 5})
		addsUp(t, l)
		checkTexts(t, []textRow{{"a1'5", "ba'b", "0150", "0113"}, {"a2a1", "ab", "20", "01"}})
		checkPuts(t, []putRow{{"0122", 1, 1, "", "acd", "011"}, {"012", 1, 1, "567", "a567c", "01112"}})
	}
}

// A nil list is as an empty one.
func TestR6Empty(t *testing.T) {
	for _, l := range [][]api.Glyph{nil, {}} {
		holds(t, l, nil, []int{}, []int{5})
		if len(Turn(l)) != 0 || len(Groups(l)) != 0 || Wide(l) != 0 || !Right(l) || len(IDs(l)) != 0 || len(Merge(l, 0, 0)) != 0 || len(Replace(l, 0, 0, []int{5})) != 0 {
			t.Error("an empty buffer")
		}
	}
	for _, text := range [][]rune{nil, {}} {
		for _, masks := range [][]int{nil, {}, {1, 2}} {
			if l := makesText(t, api.Font{}, text, 5, masks); len(l) != 0 {
				t.Errorf("%v", l)
			}
		}
	}
	l := clustered(0, 1, 1, 2)
	if a, b := Replace(l, 0, 1, nil), Replace(l, 0, 1, []int{}); !slices.Equal(a, b) || len(a) != 3 || a[1].Cluster != 0 {
		t.Errorf("%v and %v", a, b)
	}
	if a, b := New(mapped("a1"), []rune("aa"), 0, nil), New(mapped("a1"), []rune("aa"), 0, []int{}); !slices.Equal(a, b) {
		t.Errorf("%v and %v", a, b)
	}
}

// beginsOf returns, for each code point of a long text, where its cluster begins.
func beginsOf(text []rune) []int {
	var begins []int
	bounds := grapheme.Bounds(text)
	for i := 1; i < len(bounds); i++ {
		begins = append(begins, slices.Repeat(bounds[i-1:i], bounds[i]-bounds[i-1])...)
	}
	return begins
}

// The greatest texts, of clusters of all kinds.
func TestR8Texts(t *testing.T) {
	next := stream()
	codes := indexed(api.MaxMaps-1, func(i int) rune { return 0x4E00 + 3*rune(i) })
	plain := font.Plain(codes, 1000)
	masks := indexed(most, func(i int) int { return i - 100 })
	for _, n := range []int{4096, most - 1, most} {
		flags := slices.Repeat(spell("F"), n)
		makes(t, mapped("F1"), flags, 5, masks[:n], indexed(n, func(i int) int { return i - i%2 }))
		makes(t, mapped("a1b2"), slices.Repeat(spell("a"), n), -n, nil, indexed(n, func(i int) int { return i }))
		one := slices.Repeat(spell("'"), n)
		makes(t, mapped("a1'2"), one, 1<<40, masks, make([]int, n))
		one[0] = 'a'
		makes(t, mapped("a1'2"), one, 0, masks, make([]int, n))
		makes(t, mapped(""), slices.Repeat(spell("P"), n), 0, masks[:n/2], make([]int, n))
		for _, letters := range []string{allLetters, "a'", "*z'", "lvtyY", "PPa", "rn"} {
			text := some(next, n, spell(letters))
			makes(t, mapped("a1'2F3r4"), text, n, masks[:next(n)], beginsOf(text))
		}
	}
	// Not by the plain reading, which would go through all mappings for each code point.
	text := some(next, most, codes)
	for i, g := range New(plain, text, 7, masks) {
		if want := (api.Glyph{ID: 1 + int(text[i]-0x4E00)/3, Cluster: 7 + i, To: -1, Hang: -1, Mask: masks[i]}); g != want {
			t.Fatalf("glyph %d is %v, not %v", i, g, want)
		}
	}
}

// The greatest buffers: of one Cluster, of all different ones, and of any.
func TestR8Buffers(t *testing.T) {
	next := stream()
	ids := indexed(most, func(i int) int { return i - 9 })
	for _, n := range []int{4096, most} {
		for _, l := range [][]api.Glyph{
			clustered(make([]int, n)...), clustered(indexed(n, func(i int) int { return i })...), clustered(indexed(n, func(i int) int { return n - i })...), clustered(indexed(n, func(i int) int { return i / 1000 })...),
			loose(clustered(indexed(n, func(i int) int { return min(i, 1) })...)), clustered(indexed(n, func(i int) int { return i % 2 })...), someBuffer(next, n, 0, []int{-1, 0, n - 1, n}), someBuffer(next, n, 1, []int{-1, 0, n - 1}),
		} {
			tells(t, l)
			addsUp(t, l)
			for _, place := range [][2]int{{0, 1}, {0, n}, {0, n - 1}, {1, n}, {n - 1, n}, {1, 3}, {n / 3, n / 2}, {n, n}, {0, n + 1}} {
				merges(t, l, place[0], place[1])
				replaces(t, l, place[0], place[1]-place[0], nil)
				// The longest buffer that the document speaks of comes out, where there are so many places.
				replaces(t, l, place[0], place[1]-place[0], ids[:min(most, most-n+place[1]-place[0])])
			}
		}
	}
}

func TestExamples(t *testing.T) {
	if l := New(mapped(""), []rune{'e', 0x301, 'x'}, 3, nil); l[0].Cluster != 3 || l[1].Cluster != 3 || l[2].Cluster != 5 {
		t.Errorf("%v", l)
	}
	l := []api.Glyph{{ID: 7, Cluster: 0}, {ID: 8, Cluster: 1}, {ID: 9, Cluster: 2}}
	if got := Replace(l, 0, 2, []int{5}); !slices.Equal(IDs(got), []int{5, 9}) || got[0].Cluster != 0 || got[1].Cluster != 2 {
		t.Errorf("%v", got)
	}
	if got := Replace(l, 0, 2, nil); !slices.Equal(IDs(got), []int{9}) || got[0].Cluster != 0 {
		t.Errorf("%v", got)
	}
	if got := Merge(clustered(0, 1, 1, 2), 0, 2); got[0].Cluster != 0 || got[1].Cluster != 0 || got[2].Cluster != 0 || got[3].Cluster != 2 {
		t.Errorf("%v", got)
	}
	if got := Groups(clustered(0, 0, 2)); !slices.Equal(got, []api.Cut{{From: 0, To: 2}, {From: 2, To: 3}}) {
		t.Errorf("%v", got)
	}
}

// The letters of the texts written by hand are of the classes that the tests say.
func TestSigns(t *testing.T) {
	for _, c := range []struct {
		letters string
		class   int
	}{
		{"abcx!", api.ClAny}, {"r", api.ClCR}, {"n", api.ClLF}, {"s", api.ClControl}, {"'", api.ClExtend}, {"z", api.ClZWJ}, {"F", api.ClRegional}, {"P", api.ClPrepend}, {":", api.ClSpacing}, {"l", api.ClL}, {"v", api.ClV}, {"t", api.ClT}, {"y", api.ClLV}, {"Y", api.ClLVT}, {"*", api.ClPicture},
	} {
		for _, r := range spell(c.letters) {
			if got := props.Of(r).Cluster; got != c.class {
				t.Errorf("%s: %X is of class %d", c.letters, r, got)
			}
		}
	}
}
