package item

import (
	"math"
	"slices"
	"strconv"
	"strings"
	"testing"

	"typecase/api"
	"typecase/hyphen"
	"typecase/props"
	"typecase/spans"
)

// change is what is done to a setting and a paragraph without errors, and the error that there is then, by hand.
type change struct {
	name string
	want api.Errno
	turn func(s *api.Setting, p *api.Para)
}

// good returns a setting and a paragraph without errors, with more than one element in each list.
func good() (api.Setting, api.Para) {
	s := settingOf("ab h", "010")
	s.Patterns, s.Every, s.Leading = []string{"1b", ".a2b"}, 40, 12
	p := paraOf("abhabn", "001122", api.DirAuto)
	p.Tabs = []api.Tab{{At: 10}, {At: 30, Kind: api.TabPoint}, {At: 50, Kind: api.TabEnd}}
	return s, p
}

func TestP24_1Good(t *testing.T) {
	s, p := good()
	if e, runs := holds(t, s, p); e != api.OK || len(runs) == 0 {
		t.Error(e, runs)
	}
}

// numbers returns the changes to a number that is to be from least to most.
func numbers(name string, least, most int, set func(s *api.Setting, p *api.Para, n int)) []change {
	var list []change
	tried := append(farInts(), least-1, least, least+1, most-1, most, most+1, 1<<32+least, 1<<32+most, most-(1<<32), -least-2, -most-1, -1, 0, 1, 7, 255, 256, 257, 1<<16+1)
	slices.Sort(tried)
	for _, n := range slices.Compact(tried) {
		c := change{name: name + " " + strconv.Itoa(n), turn: func(s *api.Setting, p *api.Para) { set(s, p, n) }}
		if n < least || n > most {
			c.want = api.ErrArg
		}
		list = append(list, c)
	}
	return list
}

// eachNumber returns the changes to each field that is an int and has the same bounds in all settings.
func eachNumber() []change {
	type set = func(s *api.Setting, p *api.Para, n int)
	list := slices.Concat(
		numbers("Every", 0, 1<<20, func(s *api.Setting, _ *api.Para, n int) { s.Every = n }),
		numbers("Leading", 1, 1<<20, func(s *api.Setting, _ *api.Para, n int) { s.Leading = n }),
		numbers("Dir", 0, 2, func(_ *api.Setting, p *api.Para, n int) { p.Dir = n }),
		numbers("Width", 1, 1<<28, func(_ *api.Setting, p *api.Para, n int) { p.Width = n }),
		numbers("Align", 0, 3, func(_ *api.Setting, p *api.Para, n int) { p.Align = n }),
		numbers("Mode", 0, 1, func(_ *api.Setting, p *api.Para, n int) { p.Mode = n }),
		numbers("At alone", 0, 1<<28, func(_ *api.Setting, p *api.Para, n int) { p.Tabs = []api.Tab{{At: n}} }),
		numbers("At first", 0, 29, func(_ *api.Setting, p *api.Para, n int) { p.Tabs[0].At = n }),
		numbers("At inner", 11, 49, func(_ *api.Setting, p *api.Para, n int) { p.Tabs[1].At = n }),
		numbers("At last", 31, 1<<28, func(_ *api.Setting, p *api.Para, n int) { p.Tabs[2].At = n }),
	)
	for i := range 3 {
		which := " of " + strconv.Itoa(i)
		style := func(set func(style *api.Style, n int)) set {
			return func(s *api.Setting, _ *api.Para, n int) { set(&s.Styles[i], n) }
		}
		list = slices.Concat(list,
			numbers("Font"+which, 0, 1, style(func(style *api.Style, n int) { style.Font = n })),
			numbers("Size"+which, 1, 16384, style(func(style *api.Style, n int) { style.Size = n })),
			numbers("Space"+which, -1<<20, 1<<20, style(func(style *api.Style, n int) { style.Space = n })),
			numbers("Feats"+which, 0, 65535, style(func(style *api.Style, n int) { style.Feats = n })),
			numbers("Kind"+which, 0, 3, func(_ *api.Setting, p *api.Para, n int) { p.Tabs[i].Kind = n }),
		)
	}
	return list
}

func checkChanges(t *testing.T, list []change) {
	t.Helper()
	for _, c := range list {
		s, p := good()
		c.turn(&s, &p)
		if got := Check(s, p); got != c.want {
			t.Errorf("%s: error %d, not %d", c.name, got, c.want)
		}
		holds(t, s, p)
	}
}

func TestP24_1Numbers(t *testing.T) { checkChanges(t, eachNumber()) }

// The bounds once more, written out.
func TestP24_1Bounds(t *testing.T) {
	for _, c := range []struct {
		name      string
		good, bad []int
		set       func(s *api.Setting, p *api.Para, n int)
	}{
		{"Font", []int{0, 1}, []int{-1, 2}, func(s *api.Setting, _ *api.Para, n int) { s.Styles[2].Font = n }},
		{"Size", []int{1, 16384}, []int{-1, 0, 16385}, func(s *api.Setting, _ *api.Para, n int) { s.Styles[0].Size = n }},
		{"Space", []int{-1048576, 0, 1048576}, []int{-1048577, 1048577}, func(s *api.Setting, _ *api.Para, n int) { s.Styles[0].Space = n }},
		{"Feats", []int{0, 65535}, []int{-1, 65536}, func(s *api.Setting, _ *api.Para, n int) { s.Styles[0].Feats = n }},
		{"Every", []int{0, 1048576}, []int{-1, 1048577}, func(s *api.Setting, _ *api.Para, n int) { s.Every = n }},
		{"Leading", []int{1, 1048576}, []int{-1, 0, 1048577}, func(s *api.Setting, _ *api.Para, n int) { s.Leading = n }},
		{"At", []int{31, 268435456}, []int{30, 268435457}, func(_ *api.Setting, p *api.Para, n int) { p.Tabs[2].At = n }},
		{"At 0", []int{0, 29}, []int{-1, 30}, func(_ *api.Setting, p *api.Para, n int) { p.Tabs[0].At = n }},
		{"Kind", []int{0, 1, 2, 3}, []int{-1, 4}, func(_ *api.Setting, p *api.Para, n int) { p.Tabs[1].Kind = n }},
		{"Dir", []int{0, 1, 2}, []int{-1, 3}, func(_ *api.Setting, p *api.Para, n int) { p.Dir = n }},
		{"Width", []int{1, 268435456}, []int{-1, 0, 268435457}, func(_ *api.Setting, p *api.Para, n int) { p.Width = n }},
		{"Align", []int{0, 1, 2, 3}, []int{-1, 4}, func(_ *api.Setting, p *api.Para, n int) { p.Align = n }},
		{"Mode", []int{0, 1}, []int{-1, 2}, func(_ *api.Setting, p *api.Para, n int) { p.Mode = n }},
		{"Val", []int{0, 1, 2}, []int{-1, 3}, func(_ *api.Setting, p *api.Para, n int) { p.Styles = []api.Span{{To: 6, Val: n}} }},
	} {
		for want, list := range [][]int{c.good, c.bad} {
			for _, n := range list {
				s, p := good()
				c.set(&s, &p, n)
				if got := Check(s, p); got != api.Errno(want) {
					t.Errorf("%s %d: error %d", c.name, n, got)
				}
			}
		}
	}
}

// Each number of fonts and of styles bounds the indices.
func TestP24_1Indices(t *testing.T) {
	for fonts := range 9 {
		for styles := range 9 {
			s, p := good()
			s.Fonts, s.Styles = nil, nil
			for range fonts {
				s.Fonts = append(s.Fonts, fontOf('a'))
			}
			for range styles {
				s.Styles = append(s.Styles, api.Style{Size: 1})
			}
			for n := -2; n <= 10; n++ {
				p.Styles = []api.Span{{To: 3, Val: n}, {From: 3, To: 6}}
				if n == 0 {
					p.Styles = []api.Span{{To: 6, Val: n}}
				}
				want := api.OK
				if fonts == 0 || n < 0 || n >= styles {
					want = api.ErrArg
				}
				if got := Check(s, p); got != want {
					t.Errorf("%d fonts, %d styles, Val %d: error %d", fonts, styles, n, got)
				}
				holds(t, s, p)
				if styles > 0 {
					p.Styles = []api.Span{{To: 6, Val: styles - 1}}
					s.Styles[styles/2].Font = n
					want = api.OK
					if n < 0 || n >= fonts {
						want = api.ErrArg
					}
					if got := Check(s, p); got != want {
						t.Errorf("%d fonts, %d styles, Font %d: error %d", fonts, styles, n, got)
					}
					s.Styles[styles/2].Font = 0
				}
			}
		}
	}
}

// textChanges returns the changes to one code point.
func textChanges() []change {
	var list []change
	for _, r := range notCodes() {
		for i := range 6 {
			list = append(list, change{"code point " + strconv.Itoa(int(r)) + " at " + strconv.Itoa(i), api.ErrText, func(_ *api.Setting, p *api.Para) { p.Text[i] = r }})
		}
	}
	for _, r := range []rune{0, 1, 0xD7FF, 0xE000, 0xFFFE, 0xFFFF, 0x10000, top - 1, top} {
		for i := range 6 {
			list = append(list, change{"code point " + strconv.Itoa(int(r)) + " at " + strconv.Itoa(i), api.OK, func(_ *api.Setting, p *api.Para) { p.Text[i] = r }})
		}
	}
	return list
}

func TestP24_1Text(t *testing.T) {
	checkChanges(t, textChanges())
	s, _ := good()
	for r := rune(0xD700); r <= 0xE100; r++ {
		want := api.OK
		if r >= 0xD800 && r <= 0xDFFF {
			want = api.ErrText
		}
		if got := Check(s, api.Para{Text: []rune{r}, Styles: []api.Span{{To: 1}}, Width: 1}); got != want {
			t.Errorf("%X: error %d", r, got)
		}
	}
}

// badFonts are fonts that are not valid, for one condition each.
func badFonts() map[string]api.Font {
	list := map[string]api.Font{"nothing": {}, "no glyphs": {Em: 1000}}
	for name, spoilt := range map[string]func(f *api.Font){
		"Em 0":                 func(f *api.Font) { f.Em = 0 },
		"Em 16385":             func(f *api.Font) { f.Em = 16385 },
		"the least Em":         func(f *api.Font) { f.Em = math.MinInt },
		"the greatest Em":      func(f *api.Font) { f.Em = math.MaxInt },
		"Adv":                  func(f *api.Font) { f.Glyphs[1].Adv = 1<<20 + 1 },
		"Carets":               func(f *api.Font) { f.Glyphs[2].Carets = []int{1} },
		"Maps out of order":    func(f *api.Font) { f.Maps[1].Code = f.Maps[0].Code },
		"a Map to no glyph":    func(f *api.Font) { f.Maps[1].Glyph = len(f.Glyphs) },
		"a Map of a surrogate": func(f *api.Font) { f.Maps[len(f.Maps)-1].Code = 0xD800 },
		"a Kind of a lookup":   func(f *api.Font) { f.Lookups[0].Kind = 0 },
		"a Set":                func(f *api.Font) { f.Lookups[2].Set = 1 },
		"a Cover":              func(f *api.Font) { f.Lookups[0].Subs[0].Cover = nil },
		"a glyph in a list":    func(f *api.Font) { f.Lookups[0].Subs[0].To[1][0] = 99 },
		"a Nest":               func(f *api.Font) { f.Lookups[2].Subs[0].Nests[0].Lookup = 3 },
		"a Tag":                func(f *api.Font) { f.Feats[0].Tag = "lig" },
		"a lookup of a Feat":   func(f *api.Font) { f.Feats[0].Lookups[0] = -1 },
		"Sets":                 func(f *api.Font) { f.Sets = append(f.Sets, []int{2, 2}) },
	} {
		f := fullFont()
		spoilt(&f)
		list[name] = f
	}
	return list
}

func TestP24_1Fonts(t *testing.T) {
	list := []change{{"full fonts", api.OK, func(s *api.Setting, _ *api.Para) { s.Fonts = []api.Font{fullFont(), fullFont('h')} }}}
	for name, f := range badFonts() {
		list = append(list, change{name + " alone", api.ErrFont, func(s *api.Setting, _ *api.Para) { s.Fonts = []api.Font{f} }})
		for i := range 3 {
			list = append(list, change{name + " at " + strconv.Itoa(i), api.ErrFont, func(s *api.Setting, _ *api.Para) {
				s.Fonts = []api.Font{fullFont('h'), fontOf('a'), fullFont()}
				s.Fonts[i] = f
			}})
		}
		list = append(list, change{name + " twice", api.ErrFont, func(s *api.Setting, _ *api.Para) { s.Fonts = []api.Font{f, fontOf('a'), f} }})
	}
	checkChanges(t, list)
}

func TestP24_1None(t *testing.T) {
	checkChanges(t, []change{
		{"nil Fonts", api.ErrArg, func(s *api.Setting, _ *api.Para) { s.Fonts = nil }},
		{"empty Fonts", api.ErrArg, func(s *api.Setting, _ *api.Para) { s.Fonts = []api.Font{} }},
		{"nil Styles", api.ErrArg, func(s *api.Setting, _ *api.Para) { s.Styles = nil }},
		{"empty Styles", api.ErrArg, func(s *api.Setting, _ *api.Para) { s.Styles = []api.Style{} }},
		{"nil Styles for an empty text", api.ErrArg, func(s *api.Setting, p *api.Para) { s.Styles, p.Text, p.Styles = nil, nil, nil }},
		{"nil Fonts for an empty text", api.ErrArg, func(s *api.Setting, p *api.Para) { s.Fonts, p.Text, p.Styles = nil, nil, nil }},
		{"nil Fonts and Styles", api.ErrArg, func(s *api.Setting, p *api.Para) { s.Fonts, s.Styles = nil, nil }},
		{"empty Fonts, a style of font 0", api.ErrArg, func(s *api.Setting, p *api.Para) { s.Fonts, s.Styles = []api.Font{}, []api.Style{{Size: 1}} }},
		{"empty Fonts, a style of font -1", api.ErrArg, func(s *api.Setting, p *api.Para) { s.Fonts, s.Styles = nil, []api.Style{{Font: -1, Size: 1}} }},
		{"one font, one style", api.OK, func(s *api.Setting, p *api.Para) {
			s.Fonts, s.Styles, p.Styles = s.Fonts[:1], s.Styles[:1], []api.Span{{To: 6}}
		}},
		{"one font, a style of font 1", api.ErrArg, func(s *api.Setting, p *api.Para) { s.Fonts = s.Fonts[:1] }},
		{"one style, a span of style 1", api.ErrArg, func(s *api.Setting, p *api.Para) { s.Styles = s.Styles[:1] }},
		{"nil Patterns", api.OK, func(s *api.Setting, _ *api.Para) { s.Patterns = nil }},
		{"empty Patterns", api.OK, func(s *api.Setting, _ *api.Para) { s.Patterns = []string{} }},
		{"nil Tabs", api.OK, func(_ *api.Setting, p *api.Para) { p.Tabs = nil }},
		{"empty Tabs", api.OK, func(_ *api.Setting, p *api.Para) { p.Tabs = []api.Tab{} }},
		{"everything empty", api.ErrArg, func(s *api.Setting, p *api.Para) { *s, *p = api.Setting{}, api.Para{} }},
		{"an empty setting", api.ErrArg, func(s *api.Setting, p *api.Para) { *s = api.Setting{} }},
		{"an empty paragraph", api.ErrArg, func(s *api.Setting, p *api.Para) { *p = api.Para{} }},
		{"an empty paragraph of width 1", api.OK, func(s *api.Setting, p *api.Para) { *p = api.Para{Width: 1} }},
		{"empty lists", api.OK, func(s *api.Setting, p *api.Para) {
			*p = api.Para{Text: []rune{}, Styles: []api.Span{}, Tabs: []api.Tab{}, Width: 1}
		}},
		{"Hyphen", api.OK, func(_ *api.Setting, p *api.Para) { p.Hyphen = true }},
	})
}

func TestP24_1Patterns(t *testing.T) {
	for _, c := range []struct {
		pattern string
		want    api.Errno
	}{
		{"1b", api.OK}, {"b1", api.OK}, {".a2b", api.OK}, {"1b.", api.OK}, {".1b.", api.OK}, {"0b1", api.OK}, {"9ä9", api.OK}, {strings.Repeat("a1", 16), api.OK}, {"1\U0001F600", api.OK},
		{"", api.ErrArg}, {"a", api.ErrArg}, {"0a", api.ErrArg}, {"0a0", api.ErrArg}, {"1", api.ErrArg}, {".1", api.ErrArg}, {"1.", api.ErrArg}, {"a12", api.ErrArg}, {"..1a", api.ErrArg}, {"a1b..", api.ErrArg}, {"a.1b", api.ErrArg},
		{strings.Repeat("a1", 17), api.ErrArg}, {"1\xff", api.ErrArg}, {"\xc3", api.ErrArg}, {"1\xed\xa0\x80", api.ErrArg}, {"1\xc0\x80", api.ErrArg},
	} {
		if _, _, ok := hyphen.Parse(c.pattern); ok != (c.want == api.OK) {
			t.Errorf("Parse(%q) is %t", c.pattern, ok)
		}
		for i := range 3 {
			s, p := good()
			s.Patterns = []string{"1x", "1y", "1z"}
			s.Patterns[i] = c.pattern
			if got := Check(s, p); got != c.want {
				t.Errorf("%q at %d: error %d", c.pattern, i, got)
			}
			holds(t, s, p)
		}
	}
	checkChanges(t, []change{
		{"the same letters", api.OK, func(s *api.Setting, _ *api.Para) { s.Patterns = []string{"1ab", "a2b", "ab3"} }},
		{"the same pattern", api.OK, func(s *api.Setting, _ *api.Para) { s.Patterns = []string{"1ab", "1ab"} }},
	})
	if _, _, e := hyphen.New([]string{"1ab", "a2b"}); e != api.ErrTwice {
		t.Errorf("New returns error %d", e)
	}
}

// Texts with code points of bidi class B.
func TestP24_1Separators(t *testing.T) {
	for _, c := range []struct {
		good bool
		text []string
	}{
		{true, []string{"", "a", "n", "r", "p", "rn", "an", "ar", "ap", "arn", "abcn", "abcr", "abcp", "abcrn", "hn", "t", "an.", "tn", "a\x0b\x0ca"}},
		{false, []string{"na", "ra", "pa", "anb", "arb", "apb", "rna", "arnb", "arnbrn", "anbn", "anbrn", "nrn", "nr", "nn", "rr", "pp", "np", "pn", "rp", "pr", "anr", "ann", "arr", "arp", "apn", "anp", "rnn", "rrn", "rnr", "rnrn", "nrn", "arnn", "arrn", "arnrn", "prn", "rnp", "nnn", "rrr", "rran"}},
		{false, []string{"r\x1c", "r\x1d", "r\x1e", "r\u0085", "rp", "ran", "rtn", "rsn", "r'n", "rLn", "rzn"}},
	} {
		for _, text := range c.text {
			s, _ := good()
			p := paraOf(text, "", 0)
			if got := Check(s, p); (got == api.OK) != c.good || !c.good && got != api.ErrArg {
				t.Errorf("%q: error %d", text, got)
			}
			holds(t, s, p)
		}
	}
	// All code points, at the end, before it, before a final LF, and before another one of class B.
	s, _ := good()
	for r := range top + 1 {
		if r >= 0xD800 && r <= 0xDFFF {
			continue
		}
		separates := slices.Contains(separators(), r)
		if separates != (props.Of(r).Bidi == api.BidiB) {
			t.Fatalf("%X is of bidi class %d", r, props.Of(r).Bidi)
		}
		for _, c := range []struct {
			text []rune
			good bool
		}{{[]rune{'a', r}, true}, {[]rune{r, 'a'}, !separates}, {[]rune{r, '\n'}, !separates || r == '\r'}, {[]rune{r, 0x2029}, !separates}, {[]rune{r, '\r'}, !separates}, {[]rune{'\r', r}, r == '\n'}, {[]rune{'\n', r}, false}} {
			if r > 0x3000 && r%97 != 0 {
				break
			}
			if got := Check(s, api.Para{Text: c.text, Styles: []api.Span{{To: 2}}, Width: 1}); (got == api.OK) != c.good || !c.good && got != api.ErrArg {
				t.Fatalf("%X: error %d", c.text, got)
			}
		}
	}
}

func TestP24_1SeparatorsAllSmall(t *testing.T) {
	s, _ := good()
	lists(5, spell("arnp"), func(text []rune) {
		p := api.Para{Text: text, Width: 1}
		if len(text) > 0 {
			p.Styles = []api.Span{{To: len(text)}}
		}
		if got, want := Check(s, p), checkByChapter(s, p); got != want {
			t.Fatalf("%q: error %d, not %d", text, got, want)
		}
	})
	// Those beside CR and LF, too.
	lists(3, append(separators(), 'a'), func(text []rune) {
		holds(t, s, api.Para{Text: text, Styles: wholeOf(make([]int, len(text))), Width: 1})
	})
}

// spanRow is a list of spans for so many code points, and whether it is whole with styles of the setting.
type spanRow struct {
	n    int
	list []api.Span
	good bool
}

func checkSpans(t *testing.T, rows []spanRow) {
	t.Helper()
	for _, row := range rows {
		s, p := good()
		p.Text, p.Styles = slices.Repeat([]rune{'a'}, row.n), row.list
		if got := Check(s, p); (got == api.OK) != row.good || !row.good && got != api.ErrArg {
			t.Errorf("%v: error %d", row, got)
		}
		holds(t, s, p)
	}
}

func TestP24_1Spans(t *testing.T) {
	checkSpans(t, []spanRow{
		{0, nil, true}, {0, []api.Span{}, true}, {1, nil, false}, {1, []api.Span{}, false}, {4, nil, false},
		{1, []api.Span{{To: 1}}, true}, {4, []api.Span{{To: 4}}, true}, {4, []api.Span{{To: 4, Val: 2}}, true}, {4, []api.Span{{To: 1, Val: 1}, {From: 1, To: 4}}, true}, {4, []api.Span{{To: 2}, {From: 2, To: 3, Val: 1}, {From: 3, To: 4}}, true},
		// A gap, an overlap, not in order.
		{4, []api.Span{{To: 1}, {From: 2, To: 4, Val: 1}}, false}, {4, []api.Span{{To: 3}, {From: 2, To: 4, Val: 1}}, false}, {4, []api.Span{{From: 2, To: 4, Val: 1}, {To: 2}}, false}, {4, []api.Span{{To: 4}, {To: 4, Val: 1}}, false}, {4, []api.Span{{To: 4}, {From: 1, To: 4, Val: 1}}, false},
		// Not from 0, not up to the end, behind it.
		{4, []api.Span{{From: 1, To: 4}}, false}, {4, []api.Span{{From: -1, To: 4}}, false}, {4, []api.Span{{To: 3}}, false}, {4, []api.Span{{To: 5}}, false}, {4, []api.Span{{To: 2}, {From: 2, To: 5, Val: 1}}, false}, {4, []api.Span{{To: 2}, {From: 2, To: 3, Val: 1}}, false}, {4, []api.Span{{To: 4}, {From: 4, To: 5, Val: 1}}, false}, {0, []api.Span{{To: 1}}, false},
		// Empty and reversed ones.
		{4, []api.Span{{}, {To: 4, Val: 1}}, false}, {4, []api.Span{{To: 2}, {From: 2, To: 2, Val: 1}, {From: 2, To: 4, Val: 2}}, false}, {4, []api.Span{{To: 4}, {From: 4, To: 4, Val: 1}}, false}, {0, []api.Span{{}}, false}, {4, []api.Span{{From: 4, To: 0}}, false}, {4, []api.Span{{To: 3}, {From: 3, To: 1, Val: 1}, {From: 1, To: 4}}, false},
		// Neighbours of the same Val.
		{4, []api.Span{{To: 2}, {From: 2, To: 4}}, false}, {4, []api.Span{{To: 2, Val: 1}, {From: 2, To: 4, Val: 1}}, false}, {4, []api.Span{{To: 1, Val: 1}, {From: 1, To: 2}, {From: 2, To: 4}}, false},
		// Vals that are no styles, in the first, an inner, the last span.
		{4, []api.Span{{To: 4, Val: 3}}, false}, {4, []api.Span{{To: 4, Val: -1}}, false}, {4, []api.Span{{To: 1, Val: -1}, {From: 1, To: 3}, {From: 3, To: 4, Val: 1}}, false}, {4, []api.Span{{To: 1}, {From: 1, To: 3, Val: 3}, {From: 3, To: 4, Val: 1}}, false}, {4, []api.Span{{To: 1}, {From: 1, To: 3, Val: 2}, {From: 3, To: 4, Val: 3}}, false}, {4, []api.Span{{To: 1}, {From: 1, To: 3, Val: 2}, {From: 3, To: 4, Val: -1}}, false},
	})
	for _, n := range farInts() {
		checkSpans(t, []spanRow{
			{4, []api.Span{{To: 4, Val: n}}, false}, {4, []api.Span{{To: 2}, {From: 2, To: 4, Val: n}}, false}, {4, []api.Span{{To: n}}, false}, {4, []api.Span{{From: n, To: 4}}, false},
			{4, []api.Span{{To: n}, {From: n, To: 4, Val: 1}}, false}, {0, []api.Span{{To: n}}, false}, {0, []api.Span{{From: n, To: n}}, false}, {4, []api.Span{{To: 4}, {From: 4, To: n, Val: 1}}, false},
		})
	}
}

func TestP24_1SpansAllSmall(t *testing.T) {
	var each []api.Span
	for from := -1; from <= 3; from++ {
		for to := -1; to <= 3; to++ {
			each = append(each, api.Span{From: from, To: to}, api.Span{From: from, To: to, Val: 1})
		}
	}
	s, p := good()
	count := 0
	lists(2, each, func(list []api.Span) {
		for n := range 4 {
			p.Text, p.Styles = []rune("abc")[:n], list
			want := checkByChapter(s, p)
			if got := Check(s, p); got != want || (got == api.OK) != spans.Whole(list, n) {
				t.Fatalf("%v for %d: error %d, not %d", list, n, got, want)
			}
			if want == api.OK {
				count++
			}
		}
	})
	// None for 0, one of two values for each other length, and two parts of two code points or, in two ways, of three.
	if count != 1+3*2+(1+2)*2 {
		t.Errorf("%d lists are whole", count)
	}
}

func TestP24_1Tabs(t *testing.T) {
	for _, c := range []struct {
		ats  []int
		good bool
	}{
		{nil, true}, {[]int{0}, true}, {[]int{0, 1}, true}, {[]int{0, 1, 2}, true}, {[]int{1 << 28}, true}, {[]int{0, 1 << 28}, true}, {[]int{1<<28 - 1, 1 << 28}, true}, {[]int{3, 5, 7, 9}, true},
		{[]int{0, 0}, false}, {[]int{5, 5}, false}, {[]int{1 << 28, 1 << 28}, false}, {[]int{5, 4}, false}, {[]int{1, 0}, false}, {[]int{1, 2, 2}, false}, {[]int{1, 1, 2}, false}, {[]int{1, 3, 2}, false}, {[]int{2, 1, 3}, false}, {[]int{1, 2, 1}, false}, {[]int{0, 1, 0}, false},
		{[]int{-1}, false}, {[]int{-1, 0}, false}, {[]int{-2, -1}, false}, {[]int{1<<28 + 1}, false}, {[]int{0, 1<<28 + 1}, false}, {[]int{1 << 28, 1<<28 + 1}, false}, {[]int{math.MinInt, 0}, false}, {[]int{0, math.MaxInt}, false}, {[]int{math.MaxInt, math.MinInt}, false}, {[]int{math.MaxInt, 0}, false}, {[]int{1 << 32}, false},
	} {
		s, p := good()
		p.Tabs = nil
		for i, at := range c.ats {
			p.Tabs = append(p.Tabs, api.Tab{At: at, Kind: i % 4})
		}
		if got := Check(s, p); (got == api.OK) != c.good || !c.good && got != api.ErrArg {
			t.Errorf("%v: error %d", p.Tabs, got)
		}
		holds(t, s, p)
	}
	var each []api.Tab
	for at := -1; at <= 3; at++ {
		for kind := -1; kind <= 4; kind++ {
			each = append(each, api.Tab{At: at, Kind: kind})
		}
	}
	s, p := good()
	lists(3, each, func(list []api.Tab) {
		p.Tabs = list
		if got, want := Check(s, p), checkByChapter(s, p); got != want {
			t.Fatalf("%v: error %d, not %d", list, got, want)
		}
	})
}

// manyFonts, and those that follow, return so many elements without faults.
func manyFonts(n int) []api.Font { return slices.Repeat([]api.Font{fontOf('a', 'b')}, n) }

func manyStyles(n int) []api.Style { return slices.Repeat([]api.Style{{Size: 10}}, n) }

func manyPatterns(n int) []string {
	var list []string
	for i := range n {
		list = append(list, string([]rune{'1', rune('a' + i%26), rune('a' + i/26%26), rune('a' + i/676%26), rune('a' + i/17576)}))
	}
	return list
}

func manyTabs(n int) []api.Tab {
	var list []api.Tab
	for i := range n {
		list = append(list, api.Tab{At: 2 * i, Kind: i % 4})
	}
	return list
}

// longer gives the paragraph a text of n code points.
func longer(p *api.Para, n int) {
	p.Text, p.Styles = slices.Repeat([]rune("ab h"), n)[:n], []api.Span{{To: n, Val: 1}}
}

func TestP24_1Many(t *testing.T) {
	for _, c := range []struct {
		name  string
		limit int
		set   func(s *api.Setting, p *api.Para, n int)
	}{
		{"Fonts", 8, func(s *api.Setting, _ *api.Para, n int) { s.Fonts = manyFonts(n) }},
		{"Styles", 64, func(s *api.Setting, _ *api.Para, n int) { s.Styles = manyStyles(n) }},
		{"Patterns", 512, func(s *api.Setting, _ *api.Para, n int) { s.Patterns = manyPatterns(n) }},
		{"Tabs", 32, func(_ *api.Setting, p *api.Para, n int) { p.Tabs = manyTabs(n) }},
		{"code points", 4096, func(_ *api.Setting, p *api.Para, n int) { longer(p, n) }},
	} {
		for _, n := range []int{c.limit - 1, c.limit, c.limit + 1, c.limit + 2, 2 * c.limit, 4097, most} {
			s, p := good()
			c.set(&s, &p, n)
			want := api.OK
			if n > c.limit {
				want = api.ErrMany
			}
			if got := Check(s, p); got != want {
				t.Errorf("%d %s: error %d", n, c.name, got)
			}
			if got, e := Runs(s, p); e != want || (len(got) == 0) != (want != api.OK) {
				t.Errorf("%d %s: error %d", n, c.name, e)
			}
			if got := Prefer(s, p); (len(got) == 0) != (want != api.OK) {
				t.Errorf("%d %s: %v", n, c.name, got)
			}
		}
	}
	s, p := good()
	s.Fonts, s.Styles, s.Patterns, p.Tabs = manyFonts(8), manyStyles(64), manyPatterns(512), manyTabs(32)
	s.Styles[63].Font = 7
	longer(&p, 4096)
	p.Styles[0].Val = 63
	if e, _ := holds(t, s, p); e != api.OK {
		t.Errorf("all at their limits: error %d", e)
	}
}

// tooMany are changes after which a list is too long by one or more.
func tooMany() []change {
	return []change{
		{"9 fonts", api.ErrMany, func(s *api.Setting, _ *api.Para) { s.Fonts = manyFonts(9) }},
		{"65 styles", api.ErrMany, func(s *api.Setting, _ *api.Para) { s.Styles = manyStyles(65) }},
		{"513 patterns", api.ErrMany, func(s *api.Setting, _ *api.Para) { s.Patterns = manyPatterns(513) }},
		{"33 tabs", api.ErrMany, func(_ *api.Setting, p *api.Para) { p.Tabs = manyTabs(33) }},
		{"4097 code points", api.ErrMany, func(_ *api.Setting, p *api.Para) { longer(p, 4097) }},
	}
}

// laid are changes to be made after those of tooMany: they leave lists as long as they are.
func laid() []change {
	end := func(p *api.Para) int { return len(p.Text) - 1 }
	return []change{
		{"the first code point", api.ErrText, func(_ *api.Setting, p *api.Para) { p.Text[0] = -1 }},
		{"the last code point", api.ErrText, func(_ *api.Setting, p *api.Para) { p.Text[end(p)] = 0xD800 }},
		{"the first font", api.ErrFont, func(s *api.Setting, _ *api.Para) { s.Fonts[0].Em = 0 }},
		{"the last font", api.ErrFont, func(s *api.Setting, _ *api.Para) { s.Fonts[len(s.Fonts)-1] = api.Font{} }},
		{"the Font of the last style", api.ErrArg, func(s *api.Setting, _ *api.Para) { s.Styles[len(s.Styles)-1].Font = len(s.Fonts) }},
		{"the Size of the first style", api.ErrArg, func(s *api.Setting, _ *api.Para) { s.Styles[0].Size = 0 }},
		{"the Space of the last style", api.ErrArg, func(s *api.Setting, _ *api.Para) { s.Styles[len(s.Styles)-1].Space = 1<<20 + 1 }},
		{"the Feats of the last style", api.ErrArg, func(s *api.Setting, _ *api.Para) { s.Styles[len(s.Styles)-1].Feats = -1 }},
		{"the first pattern", api.ErrArg, func(s *api.Setting, _ *api.Para) { s.Patterns[0] = "a" }},
		{"the last pattern", api.ErrArg, func(s *api.Setting, _ *api.Para) { s.Patterns[len(s.Patterns)-1] = "" }},
		{"Every", api.ErrArg, func(s *api.Setting, _ *api.Para) { s.Every = -1 }},
		{"Leading", api.ErrArg, func(s *api.Setting, _ *api.Para) { s.Leading = 0 }},
		{"a line feed", api.ErrArg, func(_ *api.Setting, p *api.Para) { p.Text[end(p)-1] = '\n' }},
		{"a line feed near the start", api.ErrArg, func(_ *api.Setting, p *api.Para) { p.Text[1] = '\n' }},
		{"spans that end too early", api.ErrArg, func(_ *api.Setting, p *api.Para) { p.Styles[len(p.Styles)-1].To-- }},
		{"spans that end too late", api.ErrArg, func(_ *api.Setting, p *api.Para) { p.Styles[len(p.Styles)-1].To += 2 }},
		{"spans that begin too late", api.ErrArg, func(_ *api.Setting, p *api.Para) { p.Styles[0].From++ }},
		{"a Val", api.ErrArg, func(s *api.Setting, p *api.Para) { p.Styles[len(p.Styles)-1].Val = len(s.Styles) }},
		{"the At of the last tab", api.ErrArg, func(_ *api.Setting, p *api.Para) { p.Tabs[len(p.Tabs)-1].At = p.Tabs[len(p.Tabs)-2].At }},
		{"the Kind of the last tab", api.ErrArg, func(_ *api.Setting, p *api.Para) { p.Tabs[len(p.Tabs)-1].Kind = 4 }},
		{"Dir", api.ErrArg, func(_ *api.Setting, p *api.Para) { p.Dir = 3 }},
		{"Width", api.ErrArg, func(_ *api.Setting, p *api.Para) { p.Width = 0 }},
		{"Align", api.ErrArg, func(_ *api.Setting, p *api.Para) { p.Align = 4 }},
		{"Mode", api.ErrArg, func(_ *api.Setting, p *api.Para) { p.Mode = 2 }},
	}
}

// first is the one of the errors that is told.
func first(errors ...api.Errno) api.Errno {
	for _, e := range []api.Errno{api.ErrText, api.ErrFont, api.ErrArg, api.ErrMany} {
		if slices.Contains(errors, e) {
			return e
		}
	}
	return api.OK
}

// Of every two causes the first one is told, and all elements of lists that are too long are looked at.
func TestP24_1Order(t *testing.T) {
	all := slices.Concat(tooMany(), laid())
	for _, a := range all {
		for _, b := range laid() {
			s, p := good()
			a.turn(&s, &p)
			b.turn(&s, &p)
			if got, want := Check(s, p), first(a.want, b.want); got != want {
				t.Errorf("%s and %s: error %d, not %d", a.name, b.name, got, want)
			}
			holds(t, s, p)
		}
	}
	for _, a := range tooMany() {
		for _, b := range tooMany() {
			s, p := good()
			a.turn(&s, &p)
			b.turn(&s, &p)
			if got := Check(s, p); got != api.ErrMany {
				t.Errorf("%s and %s: error %d", a.name, b.name, got)
			}
		}
	}
}

// Of any causes the first one is told.
func TestP24_1OrderSome(t *testing.T) {
	next := stream()
	var count [16]int
	for range 3000 {
		s, p := good()
		var causes []api.Errno
		var names []string
		for _, c := range slices.Concat(tooMany(), laid()) {
			if next(12) == 0 && c.want != api.ErrText && c.want != api.ErrFont || next(40) == 0 {
				c.turn(&s, &p)
				causes, names = append(causes, c.want), append(names, c.name)
			}
		}
		want := checkByChapter(s, p)
		if named := first(causes...); named != want {
			t.Fatalf("%v: error %d, not %d", names, named, want)
		}
		if got := Check(s, p); got != want {
			t.Fatalf("%v: error %d, not %d", names, got, want)
		}
		count[want]++
	}
	for _, e := range []api.Errno{api.OK, api.ErrText, api.ErrFont, api.ErrArg, api.ErrMany} {
		if count[e] < 20 {
			t.Errorf("error %d was told %d times", e, count[e])
		}
	}
}

// Of a list that is too long, each element is looked at: those behind the limit, too.
func TestP24_1BehindLimits(t *testing.T) {
	for i := range 12 {
		s, p := good()
		s.Fonts = manyFonts(12)
		s.Fonts[i].Em = 16385
		if got := Check(s, p); got != api.ErrFont {
			t.Errorf("font %d of 12: error %d", i, got)
		}
		s.Fonts[i].Em = 1000
		s.Styles[0].Font = i
		if got := Check(s, p); got != api.ErrMany {
			t.Errorf("Font %d with 12 fonts: error %d", i, got)
		}
	}
	for i := range 70 {
		s, p := good()
		s.Styles = manyStyles(70)
		p.Styles = []api.Span{{To: 6, Val: i}}
		if got := Check(s, p); got != api.ErrMany {
			t.Errorf("Val %d with 70 styles: error %d", i, got)
		}
		s.Styles[i].Feats = 65536
		if got := Check(s, p); got != api.ErrArg {
			t.Errorf("style %d of 70: error %d", i, got)
		}
	}
	for i := range 600 {
		s, p := good()
		s.Patterns = manyPatterns(600)
		s.Patterns[i] = "0a"
		if got := Check(s, p); got != api.ErrArg {
			t.Errorf("pattern %d of 600: error %d", i, got)
		}
	}
	for i := range 40 {
		s, p := good()
		p.Tabs = manyTabs(40)
		p.Tabs[i].Kind = -1
		if got := Check(s, p); got != api.ErrArg {
			t.Errorf("tab %d of 40: error %d", i, got)
		}
	}
	for _, i := range []int{0, 1, 4094, 4095, 4096, 4097, 4998, 4999} {
		s, p := good()
		longer(&p, 5000)
		p.Text[i] = '\n'
		if got := Check(s, p); (got != api.ErrArg || i == 4999) && (got != api.ErrMany || i != 4999) {
			t.Errorf("a line feed at %d of 5000: error %d", i, got)
		}
		p.Text[i] = 0x110000
		if got := Check(s, p); got != api.ErrText {
			t.Errorf("code point %d of 5000: error %d", i, got)
		}
	}
	s, p := good()
	longer(&p, 5000)
	for _, to := range []int{4095, 4096, 4097, 4999, 5001} {
		p.Styles = []api.Span{{To: to}}
		if got := Check(s, p); got != api.ErrArg {
			t.Errorf("spans up to %d of 5000: error %d", to, got)
		}
	}
}

// Any numbers at all.
func TestP24_1Some(t *testing.T) {
	next := stream()
	var count [16]int
	changes := slices.Concat(eachNumber(), textChanges())
	for range 20000 {
		s, p := good()
		for range next(4) {
			changes[next(len(changes))].turn(&s, &p)
			// The changes are for three tabs.
			if len(p.Tabs) < 3 {
				p.Tabs = append(p.Tabs, api.Tab{At: 30}, api.Tab{At: 50})
			}
		}
		e, _ := holds(t, s, p)
		count[e]++
	}
	for _, e := range []api.Errno{api.OK, api.ErrText, api.ErrArg} {
		if count[e] < 1000 {
			t.Errorf("error %d was told %d times", e, count[e])
		}
	}
}
