package item

import (
	"math"
	"slices"
	"strings"
	"testing"

	"typecase/api"
	"typecase/font"
	"typecase/grapheme"
	"typecase/levels"
	"typecase/props"
	"typecase/script"
	"typecase/spans"
)

// row is a call written by hand: the fonts as words, the font of each style as a digit, the text, the style of each code point as a digit (or nothing), Dir, and what there is for each code point: its run's level, script (by a letter), font and style, and the font that its cluster prefers.
type row struct {
	fonts, hands, text, styles                     string
	dir                                            int
	levels, scripts, wantFonts, wantStyles, wishes string
}

// scriptOf returns the script that a letter stands for.
func scriptOf(letter rune) int {
	switch letter {
	case 'L':
		return api.ScLatin
	case 'G':
		return api.ScGreek
	case 'K':
		return api.ScCyrillic
	case 'H':
		return api.ScHebrew
	case 'A':
		return api.ScArabic
	case 'W':
		return api.ScHan
	case 'Y':
		return api.ScHangul
	case 'D':
		return api.ScDevanagari
	}
	return api.ScCommon
}

func checkRows(t *testing.T, rows []row) {
	t.Helper()
	for _, r := range rows {
		s, p := settingOf(r.fonts, r.hands), paraOf(r.text, r.styles, r.dir)
		var kinds []kind
		for i, letter := range r.scripts {
			kinds = append(kinds, kind{digits(r.levels)[i], scriptOf(letter), digits(r.wantFonts)[i], digits(r.wantStyles)[i], digits(r.wishes)[i]})
		}
		runs, e := Runs(s, p)
		if e != api.OK || !slices.Equal(runs, runsOf(kinds)) {
			t.Errorf("%v: %v and error %d", r, runs, e)
		}
		if got := Prefer(s, p); !slices.Equal(got, wishesOf(kinds)) {
			t.Errorf("%v: Prefer is %v", r, got)
		}
		if len(kinds) != len(p.Text) {
			t.Errorf("%v: %d of %d code points", r, len(kinds), len(p.Text))
		}
		holds(t, s, p)
	}
}

func TestP24_2ByHand(t *testing.T) {
	checkRows(t, []row{
		{"ab", "0", "", "", 0, "", "", "", "", ""}, {"ab", "0", "", "", 2, "", "", "", "", ""},
		// One cluster.
		{"ab", "0", "a", "", 0, "0", "L", "0", "0", "0"}, {"ab", "0", "a", "", 1, "0", "L", "0", "0", "0"}, {"ab", "0", "a", "", 2, "2", "L", "0", "0", "0"}, {"ab", "0", "h", "", 0, "1", "H", "0", "0", "0"}, {"ab", "0", "h", "", 1, "1", "H", "0", "0", "0"}, {"ab h", "0", "h", "", 2, "1", "H", "1", "0", "0"},
		{"ab h", "01", "a", "1", 0, "0", "L", "0", "1", "1"}, {"b ab", "001", "a", "2", 0, "0", "L", "1", "2", "1"}, {"a a", "01", "a", "1", 0, "0", "L", "1", "1", "1"}, {"a", "0", "1", "", 0, "0", "C", "0", "0", "0"}, {"a", "0", "1", "", 2, "2", "C", "0", "0", "0"}, {"a", "0", " ", "", 0, "0", "C", "0", "0", "0"}, {"a", "0", " ", "", 2, "1", "C", "0", "0", "0"},
		{"a", "0", "n", "", 0, "0", "C", "0", "0", "0"}, {"a", "0", "rn", "", 2, "11", "CC", "00", "00", "00"}, {"a 0", "0", "0", "", 0, "2", "A", "1", "0", "0"}, {"a", "0", "d:", "", 0, "00", "DD", "00", "00", "00"}, {"a", "0", "yY", "", 0, "00", "YY", "00", "00", "00"}, {"a", "0", "w", "", 0, "0", "W", "0", "0", "0"},
		{"ab", "0", "ab", "", 0, "00", "LL", "00", "00", "00"}, {"ab", "0", "a b, a1", "", 0, "0000000", "LLLLLLL", "0000000", "0000000", "0000000"},
		// Parted by the level alone.
		{"h1", "0", "h1", "", 0, "12", "HH", "00", "00", "00"}, {"h1", "0", "1h", "", 0, "21", "HH", "00", "00", "00"}, {"h1", "0", "1h1h1", "", 0, "21212", "HHHHH", "00000", "00000", "00000"}, {"h 1", "0", "h1", "", 1, "12", "HH", "01", "00", "00"}, {"h1", "0", "h,1h", "", 1, "1121", "HHHH", "0000", "0000", "0000"},
		{"aE", "0", "aEa", "", 1, "002", "LLL", "000", "000", "000"}, {"a", "0", "aOaC", "", 0, "0011", "LLLL", "0000", "0000", "0000"}, {"a", "0", "aOabCb", "", 0, "001110", "LLLLLL", "000000", "000000", "000000"}, {"a", "0", "an", "", 2, "21", "LL", "00", "00", "00"}, {"a", "0", "a a", "", 2, "222", "LLL", "000", "000", "000"},
		// By the script alone.
		{"ag", "0", "ag", "", 0, "00", "LG", "00", "00", "00"}, {"agk", "0", "agka", "", 0, "0000", "LGKL", "0000", "0000", "0000"}, {"ag1", "0", "a1g1", "", 0, "0000", "LLGG", "0000", "0000", "0000"}, {"hA", "0", "hAAh", "", 0, "1111", "HAAH", "0000", "0000", "0000"}, {"awyd", "0", "awydda", "", 1, "000000", "LWYDDL", "000000", "000000", "000000"}, {"ag", "0", "1ag", "", 0, "000", "LLG", "000", "000", "000"}, {"ag", "0", "a(g)g", "", 1, "00000", "LLGLG", "00000", "00000", "00000"},
		// By the font alone.
		{"a b", "0", "ab", "", 0, "00", "LL", "01", "00", "00"}, {"a b", "0", "abba", "", 0, "0000", "LLLL", "0110", "0000", "0000"}, {"a b", "0", "abca", "", 0, "0000", "LLLL", "0100", "0000", "0000"}, {"a b", "1", "abca", "", 0, "0000", "LLLL", "0110", "0000", "1111"}, {"a ab", "1", "abca", "", 0, "0000", "LLLL", "1111", "0000", "1111"}, {"a b c", "0", "cba", "", 0, "000", "LLL", "210", "000", "000"},
		// By the style alone.
		{"ab", "00", "ab", "01", 0, "00", "LL", "00", "01", "00"}, {"ab", "000", "abab", "0122", 0, "0000", "LLLL", "0000", "0122", "0000"}, {"ab", "000", "abab", "2110", 0, "0000", "LLLL", "0000", "2110", "0000"}, {"a b", "01", "aaa", "010", 0, "000", "LLL", "000", "010", "010"}, {"a", "00", "hh", "01", 0, "11", "HH", "00", "01", "00"},
		// By several.
		{"ab h", "01", "abhh", "0011", 0, "0011", "LLHH", "0011", "0011", "0011"}, {"ab h", "01", "abhh", "0101", 0, "0011", "LLHH", "0011", "0101", "0101"}, {"ab ab", "01", "ab", "01", 0, "00", "LL", "01", "01", "01"}, {"a g h", "012", "agh", "012", 0, "001", "LGH", "012", "012", "012"}, {"a g", "00", "aagg", "0110", 0, "0000", "LLGG", "0011", "0110", "0000"}, {"ab h", "0", "ahb", "", 0, "010", "LHL", "010", "000", "000"},
		{"a h", "0", "aLhIa", "", 0, "00300", "LLHHL", "00100", "00000", "00000"}, {"ab h1", "0", "ah1", "", 1, "012", "LHH", "011", "000", "000"}, {"ab h1", "0", "h1a", "", 0, "122", "HHL", "110", "000", "000"},
	})
}

// Clusters of several code points: the first one decides about all four.
func TestP24_2Clusters(t *testing.T) {
	checkRows(t, []row{
		// The level: P is of AN, the Spacing of L.
		{"Pa", "0", "Pa", "", 1, "22", "LL", "00", "00", "00"}, {"Pab", "0", "Pab", "", 1, "220", "LLL", "000", "000", "000"}, {"Pab", "0", "bPa", "", 1, "022", "LLL", "000", "000", "000"}, {"Ph", "0", "hPh", "", 0, "122", "HHH", "000", "000", "000"}, {"Ph", "0", "Phh", "", 2, "221", "HHH", "000", "000", "000"}, {"h:", "0", "h:h", "", 0, "111", "HHH", "000", "000", "000"}, {"h:a", "0", "h:a", "", 0, "112", "HHL", "000", "000", "000"}, {"PPa", "0", "PPaPa", "", 1, "22222", "LLLLL", "00000", "00000", "00000"},
		// The script: that of the whole cluster.
		{"a:", "0", "a:", "", 0, "00", "LL", "00", "00", "00"}, {"':", "0", "':", "", 0, "00", "DD", "00", "00", "00"}, {"dai", "0", "aidi", "", 0, "0000", "LLDD", "0000", "0000", "0000"}, {"dai1", "0", "1iad", "", 0, "0000", "DDLD", "0000", "0000", "0000"}, {"P0g", "0", "Pgg", "", 1, "220", "GGG", "000", "000", "000"}, {"Pag", "0", "aPg", "", 1, "022", "LGG", "000", "000", "000"}, {"Pag", "0", "gPag", "", 1, "0220", "GLLG", "0000", "0000", "0000"},
		// The font: one that has all of it, or the first code point.
		{"a a'", "0", "aa'a", "", 0, "0000", "LLLL", "0110", "0000", "0000"}, {"ba a'", "0", "a'b'", "", 0, "0000", "LLLL", "1100", "0000", "0000"}, {"c a'b", "0", "a'b'", "", 0, "0000", "LLLL", "1111", "0000", "0000"}, {"a P Pb", "0", "Pb", "", 1, "22", "LL", "22", "00", "00"}, {"a *", "0", "*z*a", "", 0, "0000", "LLLL", "1110", "0000", "0000"},
		// The style.
		{"a'b", "00", "a'b", "011", 0, "000", "LLL", "000", "001", "000"}, {"a'b", "00", "a'b", "010", 0, "000", "LLL", "000", "000", "000"}, {"a'b", "00", "a'b", "001", 0, "000", "LLL", "000", "001", "000"}, {"a'b", "00", "a'b", "100", 0, "000", "LLL", "000", "110", "000"}, {"a'b", "00", "a'b", "101", 0, "000", "LLL", "000", "111", "000"}, {"a'b", "000", "a'b", "012", 0, "000", "LLL", "000", "002", "000"},
		{"a'b", "00", "a'b'", "0110", 0, "0000", "LLLL", "0000", "0011", "0000"}, {"a'b", "00", "a'b'", "0101", 0, "0000", "LLLL", "0000", "0000", "0000"}, {"a'b", "00", "a'b'", "1010", 0, "0000", "LLLL", "0000", "1111", "0000"}, {"a'b", "000", "a'''''b", "0121201", 0, "0000000", "LLLLLLL", "0000000", "0000001", "0000000"}, {"a'", "000", "a'''''", "012120", 0, "000000", "LLLLLL", "000000", "000000", "000000"},
		{"a", "00", "arn", "001", 0, "000", "LLL", "000", "000", "000"}, {"a", "00", "arn", "010", 0, "000", "LLL", "000", "011", "000"}, {"a", "00", "arn", "011", 0, "000", "LLL", "000", "011", "000"}, {"F", "00", "FFFF", "0110", 0, "0000", "CCCC", "0000", "0011", "0000"}, {"F", "00", "FFFFF", "01010", 0, "00000", "CCCCC", "00000", "00000", "00000"}, {"yY", "00", "yYy", "010", 0, "000", "YYY", "000", "000", "000"}, {"*M", "00", "*M*", "011", 0, "000", "CCC", "000", "001", "000"},
		// The preferred font is that of the style of the first code point.
		{"a' a'", "01", "a'a'", "0110", 0, "0000", "LLLL", "0011", "0011", "0011"}, {"a' a'", "01", "a'a'", "0101", 0, "0000", "LLLL", "0000", "0000", "0000"}, {"a' a'", "01", "a'a'", "1011", 0, "0000", "LLLL", "1111", "1111", "1111"}, {"a' a'", "10", "a'a'", "0110", 0, "0000", "LLLL", "1100", "0011", "1100"}, {"a' a", "01", "a'a'", "0011", 0, "0000", "LLLL", "0000", "0011", "0011"},
		// All of it.
		{"Ph a", "01", "aPha", "0010", 1, "0220", "LHHL", "1001", "0000", "0000"}, {"Ph a", "01", "aPha", "0101", 1, "0220", "LHHL", "1001", "0111", "0111"}, {"a :", "10", "ah:h", "0011", 1, "0111", "LHHH", "0110", "0001", "1110"},
	})
}

// What Prefer gives for styles that follow one another and have the same font, and for clusters that another font has.
func TestP24_2Prefer(t *testing.T) {
	for _, c := range []struct {
		fonts, hands, text, styles string
		want                       []api.Span
	}{
		{"a", "0", "", "", nil}, {"a b", "01", "a", "0", []api.Span{{To: 1}}}, {"a b", "01", "a", "1", []api.Span{{To: 1, Val: 1}}}, {"a b", "10", "a", "0", []api.Span{{To: 1, Val: 1}}},
		{"a b", "0101", "abab", "0123", []api.Span{{To: 1}, {From: 1, To: 2, Val: 1}, {From: 2, To: 3}, {From: 3, To: 4, Val: 1}}}, {"a b", "0101", "abab", "0220", []api.Span{{To: 4}}}, {"a b", "0101", "abab", "0213", []api.Span{{To: 2}, {From: 2, To: 4, Val: 1}}}, {"a b", "1110", "abab", "0123", []api.Span{{To: 3, Val: 1}, {From: 3, To: 4}}}, {"a b", "111", "abab", "0121", []api.Span{{To: 4, Val: 1}}},
		{"a b", "01", "bbaa", "0011", []api.Span{{To: 2}, {From: 2, To: 4, Val: 1}}}, {"a b", "01", "cccc", "0011", []api.Span{{To: 2}, {From: 2, To: 4, Val: 1}}}, {"a b", "10", "haha", "0101", []api.Span{{To: 1, Val: 1}, {From: 1, To: 2}, {From: 2, To: 3, Val: 1}, {From: 3, To: 4}}},
		{"a b", "01", "a'b", "011", []api.Span{{To: 2}, {From: 2, To: 3, Val: 1}}}, {"a b", "01", "a'b", "100", []api.Span{{To: 2, Val: 1}, {From: 2, To: 3}}}, {"a b", "01", "a'b", "010", []api.Span{{To: 3}}}, {"a b", "01", "a'b", "101", []api.Span{{To: 3, Val: 1}}}, {"a b", "01", "a'''b'", "010110", []api.Span{{To: 4}, {From: 4, To: 6, Val: 1}}}, {"a b", "01", "arn", "001", []api.Span{{To: 3}}}, {"a b c", "012", "FFF'", "0121", []api.Span{{To: 2}, {From: 2, To: 4, Val: 2}}}, {"a b c", "012", "PPab", "0120", []api.Span{{To: 4}}},
	} {
		s, p := settingOf(c.fonts, c.hands), paraOf(c.text, c.styles, 0)
		if got := Prefer(s, p); !slices.Equal(got, c.want) {
			t.Errorf("%v: %v", c, got)
		}
		holds(t, s, p)
	}
}

// What is joined, and what is the same but lies apart.
func TestP24_2Joined(t *testing.T) {
	latin := func(from, to, font, style int) api.Run {
		return api.Run{From: from, To: to, Script: api.ScLatin, Font: font, Style: style}
	}
	for _, c := range []struct {
		fonts, hands, text, styles string
		want                       []api.Run
	}{
		{"ab", "00", "abababab", "", []api.Run{latin(0, 8, 0, 0)}}, {"ab", "00", "aba", "010", []api.Run{latin(0, 1, 0, 0), latin(1, 2, 0, 1), latin(2, 3, 0, 0)}}, {"a b", "00", "abab", "", []api.Run{latin(0, 1, 0, 0), latin(1, 2, 1, 0), latin(2, 3, 0, 0), latin(3, 4, 1, 0)}}, {"ab", "00", "aabbaa", "001100", []api.Run{latin(0, 2, 0, 0), latin(2, 4, 0, 1), latin(4, 6, 0, 0)}},
		{"a b", "00", "ab", "01", []api.Run{latin(0, 1, 0, 0), latin(1, 2, 1, 1)}}, {"ag", "0", "aga", "", []api.Run{latin(0, 1, 0, 0), {From: 1, To: 2, Script: api.ScGreek}, latin(2, 3, 0, 0)}}, {"ah", "0", "aha", "", []api.Run{latin(0, 1, 0, 0), {From: 1, To: 2, Level: 1, Script: api.ScHebrew}, latin(2, 3, 0, 0)}}, {"a", "00", "a'a", "010", []api.Run{latin(0, 3, 0, 0)}}, {"a'", "00", "aa'a'a", "001010", []api.Run{latin(0, 6, 0, 0)}}, {"a'", "00", "aa'a'a", "001100", []api.Run{latin(0, 3, 0, 0), latin(3, 5, 0, 1), latin(5, 6, 0, 0)}},
	} {
		s, p := settingOf(c.fonts, c.hands), paraOf(c.text, c.styles, 0)
		if got, e := Runs(s, p); e != api.OK || !slices.Equal(got, c.want) {
			t.Errorf("%v: %v and error %d", c, got, e)
		}
		holds(t, s, p)
	}
}

func TestP24_2Errors(t *testing.T) {
	var count [16]int
	for _, c := range slices.Concat(tooMany(), laid(), eachNumber(), textChanges()) {
		s, p := good()
		c.turn(&s, &p)
		runs, e := Runs(s, p)
		wishes := Prefer(s, p)
		if e != c.want || (c.want == api.OK) != (len(runs) > 0) || (c.want == api.OK) != (len(wishes) > 0) {
			t.Errorf("%s: %v, error %d, and %v", c.name, runs, e, wishes)
		}
		count[e]++
	}
	for _, e := range []api.Errno{api.OK, api.ErrText, api.ErrFont, api.ErrArg, api.ErrMany} {
		if count[e] < 2 {
			t.Errorf("error %d is returned %d times", e, count[e])
		}
	}
	for _, text := range []string{"na", "a!b", "rna", ""} {
		s, p := settingOf("a", "0"), paraOf(text, "", 0)
		if text == "" {
			s.Fonts = nil
		}
		if runs, e := Runs(s, p); e == api.OK || len(runs) != 0 || len(Prefer(s, p)) != 0 {
			t.Errorf("%q: %v and error %d", text, runs, e)
		}
	}
}

// All short texts of a few letters, in all directions, with styles that change anywhere.
func TestP24_2AllSmall(t *testing.T) {
	s := settingOf("a' hP a", "012")
	lists(4, spell("a'h1P"), func(text []rune) {
		for _, written := range []string{"0000", "0112", "2100", "1020"} {
			for dir := range 3 {
				holds(t, s, api.Para{Text: text, Styles: wholeOf(digits(written)[:len(text)]), Dir: dir, Width: 1})
			}
		}
	})
	lists(3, spell("a'g:PER(C"), func(text []rune) {
		for dir := range 3 {
			holds(t, s, api.Para{Text: text, Styles: wholeOf(digits("010")[:len(text)]), Dir: dir, Width: 1})
		}
	})
}

func TestP24_2Some(t *testing.T) {
	next := stream()
	letters := spell(allLetters)
	var parted [16]int
	inner := 0
	for range 25000 {
		few := some(next, 1+next(10), letters)
		s := someSetting(next, 8, few)
		_, runs := holds(t, s, somePara(next, next(24), few, len(s.Styles), 1+next(6)))
		for i := 1; i < len(runs); i++ {
			a, b, why := runs[i-1], runs[i], 0
			for bit, differs := range []bool{a.Level != b.Level, a.Script != b.Script, a.Font != b.Font, a.Style != b.Style} {
				if differs {
					why |= 1 << bit
				}
			}
			parted[why]++
			if i > 1 && Same(runs[i-2], b) {
				inner++
			}
		}
	}
	for why, count := range parted {
		if why == 0 && count != 0 || why != 0 && count < 500 {
			t.Errorf("%d neighbours differ by the fields %04b", count, why)
		}
	}
	if inner < 500 {
		t.Errorf("%d runs are the same as the one before the last", inner)
	}
}

// The same with clusters of many code points, within which levels, scripts and styles change.
func TestP24_2SomeClusters(t *testing.T) {
	next := stream()
	letters := spell("aghd1''::iizoMPPP**FFyYrs")
	var level, scriptOwn, style int
	for range 15000 {
		few := some(next, 2+next(8), letters)
		s := someSetting(next, 5, few)
		text := some(next, next(24), few)
		for i := range text {
			// They may stand at the end alone.
			if text[i] == '\r' {
				text[i] = 'a'
			}
		}
		p := somePara(next, 0, nil, 1, 1)
		p.Text = text
		p.Styles = wholeOf(some(next, len(text), digits("01234"[:len(s.Styles)])))
		holds(t, s, p)
		high, _, _ := levels.Of(text, p.Dir)
		for i := range text {
			if grapheme.Is(text, i) {
				continue
			}
			if high[i] != high[i-1] {
				level++
			}
			if props.Of(text[i]).Script != props.Of(text[i-1]).Script {
				scriptOwn++
			}
			if spans.At(p.Styles, i) != spans.At(p.Styles, i-1) {
				style++
			}
		}
	}
	if level < 1000 || scriptOwn < 1000 || style < 1000 {
		t.Errorf("within clusters the level changes %d times, the script %d times, the style %d times", level, scriptOwn, style)
	}
}

func TestP24_2Same(t *testing.T) {
	ends := append(farInts(), -1, 0, 1, 2)
	base := api.Run{From: 1, To: 2, Level: 3, Script: 4, Font: 5, Style: 6}
	for _, n := range ends {
		for _, m := range ends {
			for i, set := range []func(r *api.Run, n int){
				func(r *api.Run, n int) { r.From = n }, func(r *api.Run, n int) { r.To = n }, func(r *api.Run, n int) { r.From, r.To = n, n },
				func(r *api.Run, n int) { r.Level = n }, func(r *api.Run, n int) { r.Script = n }, func(r *api.Run, n int) { r.Font = n }, func(r *api.Run, n int) { r.Style = n },
				func(r *api.Run, n int) { *r = api.Run{Level: n, Script: n, Font: n, Style: n} },
			} {
				a, b := base, base
				set(&a, n)
				set(&b, m)
				if got := Same(a, b); got != (i < 3 || n == m) {
					t.Errorf("Same(%v, %v) = %t", a, b, got)
				}
			}
		}
	}
	for _, c := range []struct {
		a, b api.Run
		want bool
	}{
		{api.Run{}, api.Run{}, true}, {api.Run{From: 1}, api.Run{To: 1}, true}, {api.Run{To: 5}, api.Run{From: 5, To: 9}, true},
		{api.Run{Level: 1}, api.Run{Script: 1}, false}, {api.Run{Level: 1}, api.Run{Font: 1}, false}, {api.Run{Level: 1}, api.Run{Style: 1}, false}, {api.Run{Script: 1}, api.Run{Font: 1}, false}, {api.Run{Script: 1}, api.Run{Style: 1}, false}, {api.Run{Font: 1}, api.Run{Style: 1}, false},
		{api.Run{Level: 1, Script: 2, Font: 3, Style: 4}, api.Run{Level: 1, Script: 2, Font: 3, Style: 4}, true}, {api.Run{Level: 1, Script: 2, Font: 3, Style: 4}, api.Run{Level: 4, Script: 3, Font: 2, Style: 1}, false}, {api.Run{Level: 1, Script: 1}, api.Run{}, false}, {api.Run{Level: 1}, api.Run{Level: -1}, false},
	} {
		if Same(c.a, c.b) != c.want || Same(c.b, c.a) != c.want {
			t.Errorf("Same of %v and %v is not %t", c.a, c.b, c.want)
		}
	}
}

func TestP24_2SameAllSmall(t *testing.T) {
	lists(4, []int{0, 1, 2}, func(a []int) {
		if len(a) < 4 {
			return
		}
		lists(4, []int{0, 1, 2}, func(b []int) {
			if len(b) == 4 && Same(api.Run{From: 1, To: 2, Level: a[0], Script: a[1], Font: a[2], Style: a[3]}, api.Run{From: 2, To: 7, Level: b[0], Script: b[1], Font: b[2], Style: b[3]}) != slices.Equal(a, b) {
				t.Errorf("%v and %v", a, b)
			}
		})
	})
}

// Longer texts of all kinds: holds checks that the runs cover them, and divide no cluster.
func TestP24_3(t *testing.T) {
	next := stream()
	letters := spell(allLetters)
	for i := range 400 {
		s := someSetting(next, 8, letters)
		_, runs := holds(t, s, somePara(next, 1+i, letters, len(s.Styles), 1+next(40)))
		at := 0
		for _, r := range runs {
			if r.From != at || r.To <= at {
				t.Fatalf("%v", runs)
			}
			at = r.To
		}
		if at < 1+i {
			t.Fatalf("%v for %d code points", runs, 1+i)
		}
	}
}

// One font, one style, one script and one direction give one run.
func TestP24_4(t *testing.T) {
	next := stream()
	for _, c := range []struct {
		letters            string
		dir, level, script int
	}{
		{"abc' ,()z*t", api.DirLeft, 0, api.ScLatin}, {"abc'", api.DirAuto, 0, api.ScLatin}, {"abc'z", api.DirRight, 2, api.ScLatin}, {"abc1 ,", api.DirLeft, 0, api.ScLatin}, {"g'", api.DirAuto, 0, api.ScGreek}, {"kz", api.DirLeft, 0, api.ScCyrillic},
		{"hH'", api.DirAuto, 1, api.ScHebrew}, {"hH'", api.DirLeft, 1, api.ScHebrew}, {"hH' ,()*", api.DirRight, 1, api.ScHebrew}, {"A'", api.DirAuto, 1, api.ScArabic}, {"A ,(]'", api.DirRight, 1, api.ScArabic},
		{"d:i", api.DirAuto, 0, api.ScDevanagari}, {"yY", api.DirLeft, 0, api.ScHangul}, {"w' ", api.DirLeft, 0, api.ScHan}, {"*F1 ,", api.DirLeft, 0, api.ScCommon},
	} {
		letters := spell(c.letters)
		for n := 1; n <= 60; n++ {
			p := api.Para{Text: some(next, n, letters), Styles: []api.Span{{To: n}}, Dir: c.dir, Width: 1}
			p.Text[0] = letters[0]
			want := []api.Run{{To: n, Level: c.level, Script: c.script}}
			if _, got := holds(t, someSetting(next, 1, letters), p); !slices.Equal(got, want) {
				t.Errorf("%X: %v, not %v", p.Text, got, want)
			}
		}
	}
	for _, word := range []string{"a", "ab", "ab'c", "hH", "h'H", "AAA", "gg", "dd:", "wwww", "yYyY"} {
		for dir := range 3 {
			for count := 1; count < 200; count += 13 {
				p := paraOf(strings.Repeat(word, count), "", dir)
				runs, e := Runs(settingOf(word, "0"), p)
				if e != api.OK || len(runs) != 1 || runs[0].From != 0 || runs[0].To != len(p.Text) || runs[0].Font != 0 || runs[0].Style != 0 {
					t.Errorf("%d times %s: %v", count, word, runs)
				}
			}
		}
	}
}

// Whatever code points there are: where there is one level and one script, there is one run.
func TestP24_4Some(t *testing.T) {
	next := stream()
	count := 0
	for range 20000 {
		few := some(next, 1+next(4), spell(allLetters))
		p := somePara(next, 1+next(12), few, 1, 1)
		p.Styles = []api.Span{{To: len(p.Text)}}
		high, _, _ := levels.Of(p.Text, p.Dir)
		scripts := slices.Compact(script.Resolve(p.Text))
		if len(scripts) > 1 || len(slices.Compact(slices.Clone(high))) > 1 {
			continue
		}
		count++
		want := []api.Run{{To: len(p.Text), Level: high[0], Script: scripts[0]}}
		if got, e := Runs(someSetting(next, 1, few), p); e == api.OK && !slices.Equal(got, want) && got[0].Style == 0 {
			t.Fatalf("%X: %v, not %v", p.Text, got, want)
		}
	}
	if count < 2000 {
		t.Errorf("%d texts are of one level and one script", count)
	}
}

// anyNumber returns any number: also one that no field may have.
func anyNumber(next func(int) int) int {
	return some(next, 1, append(farInts(), -1, 0, 0, 1, 1, 2, 3, 5))[0]
}

// anySetting returns a setting of anything at all.
func anySetting(next func(int) int) api.Setting {
	s := api.Setting{Every: anyNumber(next), Leading: anyNumber(next)}
	for range next(4) {
		s.Fonts = append(s.Fonts, anyFont(next))
	}
	for range next(4) {
		s.Styles = append(s.Styles, api.Style{Font: anyNumber(next), Size: anyNumber(next), Space: anyNumber(next), Feats: anyNumber(next)})
	}
	s.Patterns = some(next, next(4), []string{"", "1b", "a", "\xff", "1..", strings.Repeat("9a", 40)})
	return s
}

// anyFont returns a font whose lists are nil, empty, or hold anything.
func anyFont(next func(int) int) api.Font {
	n := func() int { return anyNumber(next) }
	f := fullFont('h')
	switch next(6) {
	case 0:
		return api.Font{}
	case 1:
		return api.Font{Em: 1, Glyphs: []api.Info{{}}, Maps: []api.Map{}, Lookups: []api.Lookup{{}, {Kind: 2, Subs: []api.Sub{{}}}}, Sets: [][]int{nil}}
	case 2:
		return api.Font{Em: n(), Glyphs: make([]api.Info, next(3)), Maps: []api.Map{{Code: rune(n()), Glyph: n()}}, Lookups: []api.Lookup{{Kind: n(), Flags: n(), Set: n()}}, Feats: []api.Feat{{Tag: "\xff", Script: n(), Lookups: []int{n()}}}, Sets: [][]int{{n()}, {}}}
	case 3:
		sub := api.Sub{Cover: []int{n()}, To: [][]int{nil}, Ligs: [][]api.Lig{nil, {{}}}, In: [][]int{nil}, Nests: []api.Nest{{At: n(), Lookup: n()}}, Values: []api.Value{{}}, Pairs: []api.Pair{{First: n()}}, Curs: []api.Curs{{Glyph: n()}}, Marks: []api.MarkAt{{Glyph: n()}}, Hosts: []api.Host{{Glyph: n(), Spots: [][]api.Spot{nil}}, {}}}
		f.Lookups[next(len(f.Lookups))].Subs = []api.Sub{sub}
	case 4:
		f.Lookups[next(len(f.Lookups))].Subs = []api.Sub{{}}
	}
	return f
}

// No arguments make a call panic.
func TestR1Anything(t *testing.T) {
	holds(t, api.Setting{}, api.Para{})
	next := stream()
	for i := range 12000 {
		s, p := anySetting(next), api.Para{Dir: anyNumber(next), Width: anyNumber(next), Align: anyNumber(next), Mode: anyNumber(next)}
		good, fine := good()
		if i%2 == 0 {
			s = good
			s.Fonts = append(s.Fonts, anyFont(next))
		}
		p.Text = some(next, next(6), append(notCodes(), spell("ab'hn")...))
		if i%3 == 0 {
			p.Text = some(next, next(6), spell("ab'hnr"))
			p.Dir, p.Width, p.Align, p.Mode = fine.Dir, fine.Width, fine.Align, fine.Mode
		}
		for range next(4) {
			p.Styles = append(p.Styles, api.Span{From: anyNumber(next), To: anyNumber(next), Val: anyNumber(next)})
			p.Tabs = append(p.Tabs, api.Tab{At: anyNumber(next), Kind: anyNumber(next)})
		}
		holds(t, s, p)
		holds(t, good, p)
		holds(t, s, fine)
		Same(api.Run{From: anyNumber(next), Level: anyNumber(next)}, api.Run{To: anyNumber(next), Level: anyNumber(next)})
	}
}

// someArguments returns a setting and a paragraph with more elements in the memory behind all of their lists.
func someArguments(next func(int) int) (api.Setting, api.Para) {
	codes := spell("ab'hgP1n")
	s := someSetting(next, 4, codes)
	s.Fonts[0] = fullFont(codes[:next(8)]...)
	p := somePara(next, next(12), codes[:7], len(s.Styles), 4)
	switch next(6) {
	case 0:
		p.Text = append(p.Text, codes[next(8)], -1)
	case 1:
		p.Styles = append(p.Styles, api.Span{})
	case 2:
		p.Tabs = append(p.Tabs, api.Tab{At: -1}, api.Tab{At: -1})
	}
	return deep(s, 2), deep(p, 2)
}

// Arguments are not written to, and what lies behind them in memory is neither written to nor read.
func TestR5Arguments(t *testing.T) {
	next := stream()
	good := 0
	for range 2500 {
		s, p := someArguments(next)
		before := told(s, true) + told(p, true)
		bare, only := deep(s, 0), deep(p, 0)
		if Check(s, p) != Check(bare, only) {
			t.Fatalf("Check is %d, and without what lies behind the arguments %d", Check(s, p), Check(bare, only))
		}
		e, _ := holds(t, s, p)
		if after := told(s, true) + told(p, true); before != after {
			t.Fatalf("the arguments %s became %s", before, after)
		}
		if e == api.OK {
			good++
		}
	}
	if good < 500 {
		t.Errorf("only %d had no error", good)
	}
}

// Results are new memory, and stay as they are when the arguments change.
func TestR5Results(t *testing.T) {
	next := stream()
	for range 1500 {
		s, p := someArguments(next)
		before := told(s, true) + told(p, true)
		runs, e := Runs(s, p)
		again, _ := Runs(s, p)
		wishes, others := Prefer(s, p), Prefer(s, p)
		wantRuns, wantWishes := slices.Clone(runs), slices.Clone(wishes)
		spoil(again)
		spoil(others)
		if after := told(s, true) + told(p, true); before != after || !slices.Equal(runs, wantRuns) || !slices.Equal(wishes, wantWishes) {
			t.Fatalf("a result shares memory with the arguments %s, or with another one", before)
		}
		spoil(s)
		spoil(p)
		if told(s, true)+told(p, true) == before {
			t.Fatal("the arguments are not spoilt")
		}
		if !slices.Equal(runs, wantRuns) || !slices.Equal(wishes, wantWishes) || e != api.OK && len(runs)+len(wishes) > 0 {
			t.Fatalf("the results %v and %v became %v and %v", wantRuns, wantWishes, runs, wishes)
		}
	}
}

// No call hangs on those before it, also where the caller changes what it gave in place.
func TestR4Calls(t *testing.T) {
	next := stream()
	letters := spell("ab'h1gP")
	s, p := settingOf("ab' h1 gP", "0120"), paraOf("ab'h1gPab'h1gP", "00112233001122", 0)
	p.Tabs = []api.Tab{{At: 3}, {At: 4}}
	for i := range 400 {
		p.Text[next(len(p.Text))] = letters[next(7)]
		s.Styles[next(4)].Font = next(3)
		s.Fonts[next(3)] = fontOf(some(next, next(6), letters)...)
		p.Styles[next(len(p.Styles))].Val = 4 + next(2) - 4*next(2)
		p.Dir = i % 4
		p.Tabs[0].At = next(5)
		holds(t, s, p)
		p.Styles = wholeOf(some(next, len(p.Text), digits("0123")))
		holds(t, s, p)
		p.Dir, p.Tabs[0].At = i%3, 2
		holds(t, s, p)
		checkRows(t, []row{
			{"ab h", "01", "abhh", "0101", 0, "0011", "LLHH", "0011", "0101", "0101"}, {"a'b", "00", "a'b", "011", 0, "000", "LLL", "000", "001", "000"}, {"h1", "0", "h1", "", 0, "12", "HH", "00", "00", "00"},
		})
	}
}

// A nil list is as an empty one.
func TestR6Empty(t *testing.T) {
	bare := api.Font{Em: 1000, Glyphs: []api.Info{{}}}
	empty := api.Font{Em: 1000, Glyphs: []api.Info{{Carets: []int{}}}, Maps: []api.Map{}, Lookups: []api.Lookup{}, Feats: []api.Feat{}, Sets: [][]int{}}
	for _, patterns := range [][]string{nil, {}} {
		for _, tabs := range [][]api.Tab{nil, {}} {
			for _, styles := range [][]api.Span{nil, {}} {
				for _, text := range [][]rune{nil, {}} {
					s := api.Setting{Fonts: []api.Font{bare, empty}, Styles: []api.Style{{Size: 1}}, Patterns: patterns, Leading: 1}
					p := api.Para{Text: text, Styles: styles, Tabs: tabs, Width: 1}
					if e, runs := holds(t, s, p); e != api.OK || len(runs) != 0 || len(Prefer(s, p)) != 0 {
						t.Errorf("an empty text: error %d and %v", e, runs)
					}
					p.Text = []rune{'a'}
					if e := Check(s, p); e != api.ErrArg {
						t.Errorf("no styles: error %d", e)
					}
					p.Styles = []api.Span{{To: 1}}
					if e, runs := holds(t, s, p); e != api.OK || len(runs) != 1 {
						t.Errorf("one code point: error %d and %v", e, runs)
					}
					for _, fonts := range [][]api.Font{nil, {}} {
						s.Fonts = fonts
						if e, _ := holds(t, s, p); e != api.ErrArg {
							t.Errorf("no fonts: error %d", e)
						}
					}
				}
			}
		}
	}
}

// The greatest valid texts of all kinds, with styles that change often, and with one.
func TestR8Long(t *testing.T) {
	next := stream()
	for _, letters := range []string{allLetters, "ab", "a'", "ah", "PPa", "LhaRI", "(a)h[]", "FFFFa", "1h a", "a", "EeODC", "s"} {
		s := someSetting(next, 8, spell(letters))
		p := somePara(next, api.MaxRunes, spell(letters), len(s.Styles), 1)
		p.Text = p.Text[:api.MaxRunes]
		for dir := range 3 {
			p.Dir = dir
			p.Styles = wholeOf(some(next, api.MaxRunes, digits("01234567"[:len(s.Styles)])))
			if e, _ := holds(t, s, p); e != api.OK {
				t.Errorf("%s: error %d", letters, e)
			}
		}
		p.Styles = []api.Span{{To: api.MaxRunes}}
		holds(t, s, p)
	}
}

// Eight fonts of as many mappings as a font may have, each with code points of its own, and as many of all as there may be.
func TestR8Fonts(t *testing.T) {
	next := stream()
	var s api.Setting
	const block = 4095
	for k := range 8 {
		codes := make([]rune, block)
		for i := range codes {
			codes[i] = rune(0x20000 + k*block + i)
		}
		f := font.Plain(codes, 1)
		f.Maps = append([]api.Map{{Code: 'a', Glyph: 1 + k}}, f.Maps...)
		s.Fonts = append(s.Fonts, f)
	}
	for i := range 64 {
		s.Styles = append(s.Styles, api.Style{Font: i % 8, Size: 1 + i})
	}
	s.Patterns, s.Leading = manyPatterns(512), 1
	p := api.Para{Text: make([]rune, api.MaxRunes), Tabs: manyTabs(32), Width: 1}
	kinds := make([]kind, len(p.Text))
	vals := make([]int, len(p.Text))
	for i := range kinds {
		vals[i] = next(64)
		k := kind{script: api.ScHan, style: vals[i], font: next(8)}
		p.Text[i] = rune(0x20000 + k.font*block + next(block))
		// All fonts have an a, so that the preferred one is taken.
		if next(4) == 0 {
			p.Text[i], k.font, k.script = 'a', vals[i]%8, api.ScLatin
		}
		k.wish = vals[i] % 8
		kinds[i] = k
	}
	p.Styles = wholeOf(vals)
	if runs, e := Runs(s, p); e != api.OK || !slices.Equal(runs, runsOf(kinds)) {
		t.Errorf("%d runs, not %d, and error %d", len(runs), len(runsOf(kinds)), e)
	}
	if got := Prefer(s, p); !slices.Equal(got, wishesOf(kinds)) {
		t.Errorf("%d spans, not %d", len(got), len(wishesOf(kinds)))
	}
	s.Fonts[7].Maps[4095].Glyph = 4096
	if e := Check(s, p); e != api.ErrFont {
		t.Errorf("error %d", e)
	}
}

// The greatest lists that the document speaks of.
func TestR8TooLong(t *testing.T) {
	next := stream()
	s, p := good()
	p.Text = some(next, most, spell("abh' 1"))
	p.Styles = wholeOf(some(next, most, digits("012")))
	if e := agreed(s, p); e != api.ErrMany {
		t.Errorf("%d code points: error %d", most, e)
	}
	p.Text[most-2] = '\n'
	if e := agreed(s, p); e != api.ErrArg {
		t.Errorf("a line feed before the last one of %d code points: error %d", most, e)
	}
	p.Text[most-1] = -1
	if e := agreed(s, p); e != api.ErrText {
		t.Errorf("the last one of %d code points: error %d", most, e)
	}
	p.Text, p.Styles = slices.Repeat([]rune{'\n'}, most), []api.Span{{To: most}}
	if e := agreed(s, p); e != api.ErrArg {
		t.Errorf("%d line feeds: error %d", most, e)
	}
	s, p = good()
	s.Styles, s.Patterns, p.Tabs = manyStyles(most), manyPatterns(most), manyTabs(most)
	if e := agreed(s, p); e != api.ErrMany {
		t.Errorf("error %d", e)
	}
	s.Fonts = slices.Repeat([]api.Font{{Em: 1, Glyphs: make([]api.Info, 1)}}, most)
	s.Styles[most-1].Font = most - 1
	if e := agreed(s, p); e != api.ErrMany {
		t.Errorf("%d fonts: error %d", most, e)
	}
	s.Styles[most-1].Font = most
	if e := agreed(s, p); e != api.ErrArg {
		t.Errorf("the font %d: error %d", most, e)
	}
	s.Fonts[most-1].Em = 0
	if e := agreed(s, p); e != api.ErrFont {
		t.Errorf("the last one of %d fonts: error %d", most, e)
	}
}

// agreed returns the error that all functions agree on, or -1.
func agreed(s api.Setting, p api.Para) api.Errno {
	e := Check(s, p)
	runs, other := Runs(s, p)
	if e != other || e != api.OK && len(runs)+len(Prefer(s, p)) > 0 {
		return -1
	}
	return e
}

func TestExamples(t *testing.T) {
	s := settingOf("ab", "0")
	runs, e := Runs(s, paraOf("ab", "", api.DirAuto))
	if e != api.OK || !slices.Equal(runs, []api.Run{{From: 0, To: 2, Level: 0, Script: api.ScLatin, Font: 0, Style: 0}}) {
		t.Errorf("ab: %v and error %d", runs, e)
	}
	runs, e = Runs(s, paraOf("ah", "", api.DirAuto))
	if e != api.OK || len(runs) != 2 || runs[0].Level != 0 || runs[1].Level != 1 {
		t.Errorf("a and alef: %v and error %d", runs, e)
	}
	for _, text := range []string{"!", "a!", "!a", "a!b"} {
		if e := Check(s, paraOf(text, "", api.DirAuto)); e != api.ErrText {
			t.Errorf("%q: error %d", text, e)
		}
	}
}

// The letters of the texts written by hand stand for what the tests say.
func TestSigns(t *testing.T) {
	for _, c := range []struct {
		letters               string
		script, cluster, bidi int
	}{
		{"abc", api.ScLatin, api.ClAny, api.BidiL}, {"g", api.ScGreek, api.ClAny, api.BidiL}, {"k", api.ScCyrillic, api.ClAny, api.BidiL}, {"hH", api.ScHebrew, api.ClAny, api.BidiR}, {"A", api.ScArabic, api.ClAny, api.BidiAL}, {"0", api.ScArabic, api.ClAny, api.BidiAN},
		{"d", api.ScDevanagari, api.ClAny, api.BidiL}, {":", api.ScDevanagari, api.ClSpacing, api.BidiL}, {"i", api.ScDevanagari, api.ClExtend, api.BidiNSM}, {"w", api.ScHan, api.ClAny, api.BidiL}, {"y", api.ScHangul, api.ClL, api.BidiL}, {"Y", api.ScHangul, api.ClV, api.BidiL},
		{"'", api.ScInherited, api.ClExtend, api.BidiNSM}, {"z", api.ScInherited, api.ClZWJ, api.BidiBN}, {"o", api.ScInherited, api.ClExtend, api.BidiBN}, {"M", api.ScCommon, api.ClExtend, api.BidiON}, {"s", api.ScCommon, api.ClControl, api.BidiBN}, {"P", api.ScCommon, api.ClPrepend, api.BidiAN},
		{"F", api.ScCommon, api.ClRegional, api.BidiL}, {"*", api.ScCommon, api.ClPicture, api.BidiON}, {"L", api.ScCommon, api.ClControl, api.BidiLRI}, {"R", api.ScCommon, api.ClControl, api.BidiRLI}, {"I", api.ScCommon, api.ClControl, api.BidiPDI},
		{"E", api.ScCommon, api.ClControl, api.BidiRLE}, {"e", api.ScCommon, api.ClControl, api.BidiLRE}, {"O", api.ScCommon, api.ClControl, api.BidiRLO}, {"D", api.ScCommon, api.ClControl, api.BidiLRO}, {"C", api.ScCommon, api.ClControl, api.BidiPDF},
		{"r", api.ScCommon, api.ClCR, api.BidiB}, {"n", api.ScCommon, api.ClLF, api.BidiB}, {"p", api.ScCommon, api.ClControl, api.BidiB}, {"t", api.ScCommon, api.ClControl, api.BidiS}, {"1", api.ScCommon, api.ClAny, api.BidiEN}, {"()[]", api.ScCommon, api.ClAny, api.BidiON}, {" ", api.ScCommon, api.ClAny, api.BidiWS}, {"!", api.ScCommon, api.ClAny, api.BidiL},
	} {
		for _, r := range spell(c.letters) {
			if p := props.Of(r); p.Script != c.script || p.Cluster != c.cluster || p.Bidi != c.bidi {
				t.Errorf("%s: %X is %v", c.letters, r, p)
			}
		}
	}
	if settingOf("a b", "10").Styles[0].Font != 1 || len(settingOf("a b c", "10").Fonts) != 3 {
		t.Error("the settings")
	}
	for _, s := range []api.Setting{settingOf("a", "0"), {Fonts: []api.Font{fullFont(), fullFont('h')}, Styles: stylesOf("01"), Leading: 1}} {
		if e := Check(s, api.Para{Width: math.MaxInt16}); e != api.OK {
			t.Errorf("error %d", e)
		}
	}
}
