package font

import (
	"bytes"
	"math"
	"reflect"
	"slices"
	"strings"
	"testing"

	"typecase/api"
)

// judge holds Check and Encode of f, and Decode of what its encoding would be, to the chapter. It returns the clauses that f breaks.
func judge(t *testing.T, f api.Font) string {
	t.Helper()
	broken, want, text := faults(f), api.OK, encoding(f)
	if broken != "" {
		want = api.ErrFont
	}
	if got := Check(f); got != want {
		t.Errorf("Check = %d, broken: %s", got, broken)
	}
	b, e := Encode(f)
	if e != want || e == api.OK && !bytes.Equal(b, text) || e != api.OK && len(b) > 0 {
		t.Errorf("Encode = % X, %d, not % X, %d", b, e, text, want)
	}
	if e := reads(t, text); broken == "" && e != api.OK || broken != "" && e == api.OK {
		t.Errorf("Decode: %d, broken: %s", e, broken)
	}
	if broken == "" {
		spoiltBytes(t, text)
	}
	return broken
}

// spoiltBytes holds Decode to the chapter where something is wrong with the encoding of a valid font: at the end, and at one place that hangs on the bytes.
func spoiltBytes(t *testing.T, text []byte) {
	t.Helper()
	place := 0
	for i, b := range text {
		place = (place*31 + int(b) + i) % len(text)
	}
	for _, cut := range []int{len(text) - 1, place} {
		if f, e := Decode(text[:cut]); e != api.ErrEnd || told(f, false) != told(api.Font{}, false) {
			t.Errorf("Decode(% X) = %v, %d", text[:cut], f, e)
		}
	}
	if f, e := Decode(append(slices.Clone(text), 0)); e != api.ErrForm || told(f, false) != told(api.Font{}, false) {
		t.Errorf("Decode(% X 00) = %v, %d", text, f, e)
	}
	if len(text) < 2000 {
		changed := slices.Clone(text)
		changed[place] += 2
		reads(t, changed)
	}
}

// reads holds Decode of b to the chapter, and Encode of what it returns to b. It returns the error.
func reads(t *testing.T, b []byte) api.Errno {
	t.Helper()
	got, e := Decode(b)
	want, wantError := decoded(b)
	if e != wantError || told(got, false) != told(want, false) {
		t.Fatalf("Decode(% X) = %v, %d, not %v, %d", b, got, e, want, wantError)
	}
	if e != api.OK {
		return e
	}
	if back, e := Encode(got); e != api.OK || !bytes.Equal(back, b) {
		t.Fatalf("Decode(% X) is encoded as % X, %d", b, back, e)
	}
	return e
}

// A row changes a font, which then breaks just the clauses that the row names.
type row struct {
	broken string
	change func(f *api.Font)
}

// checkRows checks the rows, each of them on a new font.
func checkRows(t *testing.T, base func() api.Font, rows ...[]row) {
	t.Helper()
	for i, r := range slices.Concat(rows...) {
		f := base()
		r.change(&f)
		if got := judge(t, f); got != r.broken {
			t.Errorf("row %d breaks: %s, not: %s", i, got, r.broken)
		}
	}
}

// at returns rows for each of the numbers.
func at(broken string, set func(f *api.Font, n int), numbers ...int) []row {
	return indexed(len(numbers), func(i int) row {
		return row{broken, func(f *api.Font) { set(f, numbers[i]) }}
	})
}

// ends returns rows for a number that is right from least to most.
func ends(broken string, least, most int, set func(f *api.Font, n int)) []row {
	return slices.Concat(at("", set, least, most, least+(most-least)/2), at(broken, set, least-1, most+1, least-2, most+2, math.MinInt, math.MinInt32, math.MaxInt32, math.MaxInt))
}

// measures returns rows for a number that is a measure.
func measures(broken string, set func(f *api.Font, n int)) []row {
	return slices.Concat(ends(broken, -1048576, 1048576, set), at("", set, -1, 0, 1))
}

// counts returns rows for the length of a list that is right from least to most, and not above.
func counts(broken string, least, most int, set func(f *api.Font, n int)) []row {
	return slices.Concat(at("", set, least, least+1, most-1, most), at(broken, set, most+1, most+2))
}

// rises returns rows for numbers from 0 to 7 that are right where they increase.
func rises(broken string, set func(f *api.Font, list ...int)) []row {
	var rows []row
	for list, order := range map[[3]int]string{
		{0, 1, 2}: "", {0, 3, 7}: "", {5, 6, 7}: "", {0, 0, 1}: broken, {0, 1, 1}: broken, {7, 7, 7}: broken, {2, 1, 3}: broken, {1, 3, 2}: broken, {7, 3, 0}: broken, {1, 2, 1}: broken,
	} {
		rows = append(rows, row{order, func(f *api.Font) { set(f, list[:]...) }})
	}
	return append(rows, row{"", func(f *api.Font) { set(f) }}, row{"", func(f *api.Font) { set(f, 7) }}, row{"", func(f *api.Font) { set(f, 0, 7) }}, row{broken, func(f *api.Font) { set(f, 4, 4) }}, row{broken, func(f *api.Font) { set(f, 5, 4) }})
}

// covered returns rows for a cover.
func covered(name string, set func(f *api.Font, list []int)) []row {
	return slices.Concat(
		rises(name+" order", func(f *api.Font, list ...int) { set(f, list) }),
		ends(name+" glyph", 0, 7, func(f *api.Font, n int) { set(f, []int{n}) }),
		at(name+" glyph", func(f *api.Font, n int) { set(f, []int{0, n}) }, 8, 9, math.MaxInt),
		at(name+" glyph", func(f *api.Font, n int) { set(f, []int{n, 3}) }, -1, math.MinInt),
		[]row{{"", func(f *api.Font) { set(f, []int{}) }}},
	)
}

// sub returns the first subtable of the lookup of that kind in full.
func sub(f *api.Font, kind int) *api.Sub { return &f.Lookups[kind-1].Subs[0] }

// small is the least font.
func small() api.Font { return api.Font{Em: 1, Glyphs: make([]api.Info, 1)} }

func TestP21_1Glyphs(t *testing.T) {
	checkRows(t, full,
		ends("em", 1, 16384, func(f *api.Font, n int) { f.Em = n }),
		measures("glyph adv", func(f *api.Font, n int) { f.Glyphs[0].Adv = n }),
		measures("glyph adv", func(f *api.Font, n int) { f.Glyphs[7].Adv = n }),
		ends("glyph kind", 0, 3, func(f *api.Font, n int) { f.Glyphs[0].Kind = n }),
		ends("glyph kind", 0, 3, func(f *api.Font, n int) { f.Glyphs[6].Kind = n }),
		ends("glyph attach", 0, 255, func(f *api.Font, n int) { f.Glyphs[0].Attach = n }),
		ends("glyph attach", 0, 255, func(f *api.Font, n int) { f.Glyphs[4].Attach = n }),
		measures("caret", func(f *api.Font, n int) { f.Glyphs[3].Carets = []int{n} }),
		at("caret", func(f *api.Font, n int) { f.Glyphs[3].Carets = []int{-9, 1, n} }, 1048577, math.MaxInt),
		at("caret", func(f *api.Font, n int) { f.Glyphs[3].Carets = []int{n, 1, 2} }, -1048577, math.MinInt),
		counts("carets many", 0, 15, func(f *api.Font, n int) { f.Glyphs[6].Carets = up(-7, n) }),
		rises("carets order", func(f *api.Font, list ...int) { f.Glyphs[3].Carets = list }),
		at("carets kind", func(f *api.Font, n int) { f.Glyphs[7] = api.Info{Kind: n, Carets: []int{0}} }, 0, 1, 3),
		at("carets kind", func(f *api.Font, n int) { f.Glyphs[3].Kind = n }, 0, 1, 3),
		at("carets kind, glyph kind", func(f *api.Font, n int) { f.Glyphs[3].Kind = n }, -1, 4, math.MaxInt),
		at("", func(f *api.Font, n int) { f.Glyphs[7] = api.Info{Kind: n, Carets: []int{}} }, 0, 1, 2, 3),
		[]row{{"", func(f *api.Font) { f.Glyphs[3].Carets = []int{-1048576, 0, 1048576} }}, {"carets order", func(f *api.Font) { f.Glyphs[3].Carets = []int{5, -5} }}},
	)
	checkRows(t, small,
		counts("glyphs", 1, 4096, func(f *api.Font, n int) { f.Glyphs = make([]api.Info, n) }),
		[]row{{"glyphs", func(f *api.Font) { f.Glyphs = []api.Info{} }}, {"glyphs", func(f *api.Font) { f.Glyphs = nil }}, {"em, glyphs", func(f *api.Font) { *f = api.Font{} }}, {"em", func(f *api.Font) { f.Em = 0 }}},
		at("glyph adv", func(f *api.Font, n int) { f.Glyphs = make([]api.Info, 4096); f.Glyphs[n].Adv = 1048577 }, 0, 1, 2048, 4094, 4095),
		at("glyph kind", func(f *api.Font, n int) { f.Glyphs = make([]api.Info, 4096); f.Glyphs[n].Kind = 4 }, 0, 1, 2048, 4094, 4095),
	)
}

func TestP21_1Maps(t *testing.T) {
	code := func(f *api.Font, n int) { f.Maps = []api.Map{{Code: rune(n), Glyph: 7}} }
	checkRows(t, full,
		at("", code, 0, 1, 'a', 0xD7FF, 0xE000, 0xFFFE, 0xFFFF, 0x10000, 0x10FFFE, 0x10FFFF),
		at("map code", code, math.MinInt32, -0x110000, -'a', -1, 0xD800, 0xD801, 0xDBFF, 0xDC00, 0xDFFE, 0xDFFF, 0x110000, 0x110061, math.MaxInt32),
		ends("map glyph", 0, 7, func(f *api.Font, n int) { f.Maps[0].Glyph = n }),
		ends("map glyph", 0, 7, func(f *api.Font, n int) { f.Maps[3].Glyph = n }),
		rises("maps order", func(f *api.Font, list ...int) {
			f.Maps = indexed(len(list), func(i int) api.Map { return api.Map{Code: rune(list[i]), Glyph: i} })
		}),
		at("maps order", func(f *api.Font, n int) { f.Maps[1] = api.Map{Code: rune(n), Glyph: 3} }, 'a', 'A', 0, 0x301, 0x302),
		at("", func(f *api.Font, n int) { f.Maps[1] = api.Map{Code: rune(n), Glyph: 1} }, 'b', 0x300),
		[]row{{"map code, maps order", func(f *api.Font) { f.Maps[1].Code = -1 }}, {"", func(f *api.Font) { f.Maps = []api.Map{} }}},
	)
	maps := func(f *api.Font, n int) {
		f.Maps = indexed(n, func(i int) api.Map { return api.Map{Code: rune(2*i + 0xE000)} })
	}
	checkRows(t, small,
		counts("maps many", 0, 4096, maps),
		at("map code, maps order", func(f *api.Font, n int) { maps(f, 4096); f.Maps[n].Code = 0xD800 }, 1, 2000, 4095),
		at("map glyph", func(f *api.Font, n int) { maps(f, 4096); f.Maps[n].Glyph = 1 }, 0, 2000, 4095),
		at("maps order", func(f *api.Font, n int) { maps(f, 4096); f.Maps[n].Code -= 2 }, 1, 2000, 4095),
	)
}

func TestP21_1Sets(t *testing.T) {
	checkRows(t, full,
		covered("sets", func(f *api.Font, list []int) { f.Sets[0] = list }),
		covered("sets", func(f *api.Font, list []int) { f.Sets[2] = list }),
		counts("sets count", 3, 16, func(f *api.Font, n int) {
			f.Sets = times(n, []int{1, 3})
			f.Lookups[2].Set = n - 1
		}),
	)
	checkRows(t, small, counts("sets count", 0, 16, func(f *api.Font, n int) { f.Sets = make([][]int, n) }))
	checkRows(t, wide,
		at("", func(f *api.Font, n int) { f.Sets = [][]int{nil, up(4096-n, n)} }, 4094, 4095, 4096),
		at("sets glyph, sets many", func(f *api.Font, n int) { f.Sets = [][]int{up(n, 4097)} }, -1, 0),
		[]row{{"sets many, sets order", func(f *api.Font) { f.Sets = [][]int{nil, append(up(0, 4096), 4095)} }}},
	)
}

func TestP21_1Lookups(t *testing.T) {
	flags := func(f *api.Font, n int) { f.Lookups[1].Flags = n }
	checkRows(t, full,
		counts("lookups many", 12, 64, func(f *api.Font, n int) {
			f.Lookups = append(f.Lookups, times(n-12, api.Lookup{Kind: api.LkPair})...)
		}),
		ends("lookup kind", 1, 12, func(f *api.Font, n int) { f.Lookups[1] = api.Lookup{Kind: n} }),
		ends("lookup kind", 1, 12, func(f *api.Font, n int) { f.Lookups = append(f.Lookups, api.Lookup{Kind: n}) }),
		at("field, lookup kind", func(f *api.Font, n int) { f.Lookups[1].Kind = n }, 0, 13, -1, math.MaxInt, math.MinInt),
		at("", flags, 0, 2, 4, 6, 8, 10, 12, 14, 16, 18, 20, 22, 24, 26, 28, 30, 0x0100, 0x8000, 0xFF00, 0xFF02, 0xFF1E),
		at("flags low", flags, 1, 3, 5, 9, 17, 31, 32, 33, 34, 64, 66, 128, 130, 255, 0x0101, 0x0120, 0x0140, 0x0180, 0x01FF, 65535, 65534, 0xFF20),
		at("flags", flags, -256, -65536, -254, 65536, 65538, 1<<20, 1<<32, math.MinInt),
		at("flags, flags low", flags, -1, 65537, math.MaxInt),
		at("", func(f *api.Font, n int) { f.Lookups[1].Flags, f.Lookups[1].Set = 16+n, 2 }, 0, 2, 4, 8, 14, 0xFF00, 0x0100),
		at("set", func(f *api.Font, n int) { f.Lookups[1].Flags, f.Lookups[1].Set = n, 2 }, 0, 2, 4, 8, 14, 0xFF00, 0x1000),
		ends("set", 0, 2, func(f *api.Font, n int) { f.Lookups[2].Set = n }),
		ends("set", 0, 0, func(f *api.Font, n int) { f.Lookups[1].Set = n }),
		ends("set", 0, 0, func(f *api.Font, n int) { f.Lookups[11].Set = n }),
		at("set", func(f *api.Font, n int) { f.Sets = make([][]int, n) }, 0, 1, 2),
		counts("subs many", 0, 64, func(f *api.Font, n int) { f.Lookups[0].Subs = make([]api.Sub, n) }),
		counts("subs many", 0, 64, func(f *api.Font, n int) { f.Lookups[8].Subs = make([]api.Sub, n) }),
		[]row{{"", func(f *api.Font) { f.Lookups, f.Feats = nil, nil }}, {"", func(f *api.Font) { f.Lookups, f.Feats = []api.Lookup{}, f.Feats[2:] }}},
	)
	checkRows(t, small, counts("lookups many", 0, 64, func(f *api.Font, n int) { f.Lookups = times(n, api.Lookup{Kind: 1}) }))
}

// Every number that could be taken for flags.
func TestP21_1Flags(t *testing.T) {
	f := small()
	f.Sets = [][]int{{0}}
	for _, set := range []int{0, 1} {
		for flags := -70000; flags <= 70000; flags++ {
			f.Lookups = []api.Lookup{{Kind: api.LkPair, Flags: flags, Set: set}}
			broken := faults(f)
			if got := Check(f); (got == api.OK) != (broken == "") || got != api.OK && got != api.ErrFont {
				t.Fatalf("flags %d, set %d: %d, broken: %s", flags, set, got, broken)
			}
		}
	}
}

func TestP21_1Single(t *testing.T) {
	for _, kind := range []int{api.LkSingle, api.LkMultiple, api.LkReverse} {
		checkRows(t, full,
			covered("cover", func(f *api.Font, list []int) {
				s := sub(f, kind)
				s.Cover, s.To = list, times(len(list), []int{0})
			}),
			ends("to glyph", 0, 7, func(f *api.Font, n int) { sub(f, kind).To[0] = []int{n} }),
			ends("to glyph", 0, 7, func(f *api.Font, n int) { sub(f, kind).To[1] = []int{n} }),
			at("to count", func(f *api.Font, n int) { sub(f, kind).Cover = up(2, n) }, 0, 1, 4),
			at("to count", func(f *api.Font, n int) { sub(f, kind).To = times(n, []int{1}) }, 0, 1, 4, 5, 4097),
			[]row{{"to count", func(f *api.Font) { sub(f, kind).Cover = nil }}, {"to count", func(f *api.Font) { sub(f, kind).To = nil }}},
		)
		checkRows(t, wide,
			at("", func(f *api.Font, n int) {
				f.Lookups[kind-1].Subs = []api.Sub{{Cover: up(4096-n, n), To: times(n, []int{4095})}}
			}, 4095, 4096),
			[]row{{"cover glyph, cover many", func(f *api.Font) {
				f.Lookups[kind-1].Subs = []api.Sub{{Cover: up(0, 4097), To: times(4097, []int{0})}}
			}}},
		)
	}
	for _, kind := range []int{api.LkSingle, api.LkReverse} {
		checkRows(t, full, at("to length", func(f *api.Font, n int) { sub(f, kind).To[1] = up(0, n) }, 0, 2, 3), at("to length", func(f *api.Font, n int) { sub(f, kind).To[0] = times(n, 1) }, 0, 2, 16, 17))
	}
	checkRows(t, full,
		counts("to length", 0, 16, func(f *api.Font, n int) { sub(f, api.LkMultiple).To[2] = times(n, 7) }),
		counts("to length", 0, 16, func(f *api.Font, n int) { sub(f, api.LkMultiple).To[0] = times(n, 0) }),
		ends("to glyph", 0, 7, func(f *api.Font, n int) { sub(f, api.LkMultiple).To[1] = append(times(15, 3), n) }),
	)
}

func TestP21_1Ligature(t *testing.T) {
	lig := func(f *api.Font) *api.Lig { return &sub(f, api.LkLigature).Ligs[0][1] }
	ligs := func(count ...int) [][]api.Lig {
		return indexed(len(count), func(i int) []api.Lig { return times(count[i], api.Lig{Parts: []int{1}}) })
	}
	checkRows(t, full,
		covered("cover", func(f *api.Font, list []int) {
			s := sub(f, api.LkLigature)
			s.Cover, s.Ligs = list, ligs(up(0, len(list))...)
		}),
		at("ligs count", func(f *api.Font, n int) { sub(f, api.LkLigature).Cover = up(0, n) }, 0, 1, 3, 8),
		at("ligs count", func(f *api.Font, n int) { sub(f, api.LkLigature).Ligs = ligs(make([]int, n)...) }, 0, 1, 3, 4),
		counts("parts", 1, 15, func(f *api.Font, n int) { lig(f).Parts = times(n, 2) }),
		ends("part", 0, 7, func(f *api.Font, n int) { lig(f).Parts = []int{n} }),
		ends("part", 0, 7, func(f *api.Font, n int) { lig(f).Parts = append(times(14, 3), n) }),
		ends("lig glyph", 0, 7, func(f *api.Font, n int) { lig(f).Glyph = n }),
		ends("lig glyph", 0, 7, func(f *api.Font, n int) { sub(f, api.LkLigature).Ligs[1] = []api.Lig{{Parts: []int{1}, Glyph: n}} }),
		at("", func(f *api.Font, n int) { sub(f, api.LkLigature).Ligs = ligs(n, 4096-n) }, 0, 1, 2048, 4096),
		at("ligs many", func(f *api.Font, n int) { sub(f, api.LkLigature).Ligs = ligs(n, 4097-n) }, 0, 1, 2048, 4096, 4097),
		[]row{
			{"", func(f *api.Font) { // as many in each subtable
				s := api.Sub{Cover: []int{1}, Ligs: ligs(4096)}
				f.Lookups[2].Subs = []api.Sub{s, s}
			}},
			{"ligs many", func(f *api.Font) { f.Lookups[2].Subs = []api.Sub{{}, {Cover: up(0, 3), Ligs: ligs(2000, 2000, 97)}} }},
			{"parts", func(f *api.Font) { lig(f).Parts = nil }}, {"parts", func(f *api.Font) { lig(f).Parts = []int{} }},
		},
	)
	checkRows(t, wide,
		at("", func(f *api.Font, n int) {
			f.Lookups[2].Subs = []api.Sub{{Cover: up(0, n), Ligs: ligs(times(n, 1)...)}}
		}, 4095, 4096),
		at("ligs many", func(f *api.Font, n int) {
			f.Lookups[2].Subs = []api.Sub{{Cover: up(0, 4096), Ligs: ligs(append(make([]int, 4095), n)...)}}
		}, 4097, 5000),
		[]row{{"cover glyph, cover many, ligs many", func(f *api.Font) { f.Lookups[2].Subs = []api.Sub{{Cover: up(0, 4097), Ligs: ligs(times(4097, 1)...)}} }}},
	)
}

func TestP21_1Context(t *testing.T) {
	one := func(n int) [][]int { return times(n, []int{1}) }
	for _, kind := range []int{api.LkContext, api.LkPosContext} {
		first := map[int]int{api.LkContext: 0, api.LkPosContext: 5}[kind] // of the lookups of the same sort
		last := map[int]int{api.LkContext: 4, api.LkPosContext: 11}[kind]
		others := slices.Concat(up(0, first), up(last+1, 11-last))
		nest := func(f *api.Font) *api.Nest { return &sub(f, kind).Nests[1] }
		checkRows(t, full,
			counts("in count", 1, 16, func(f *api.Font, n int) {
				s := sub(f, kind)
				s.In, s.Nests = one(n), s.Nests[:1]
			}),
			[]row{
				{"in count, nest at", func(f *api.Font) { sub(f, kind).In = nil }}, {"in count", func(f *api.Font) { sub(f, kind).In, sub(f, kind).Nests = nil, nil }},
				{"in count", func(f *api.Font) { *sub(f, kind) = api.Sub{} }}, {"in count", func(f *api.Font) { *sub(f, kind) = api.Sub{In: [][]int{}} }},
			},
			covered("in", func(f *api.Font, list []int) { sub(f, kind).In[0] = list }),
			covered("in", func(f *api.Font, list []int) { sub(f, kind).In = append(one(15), list) }),
			at("", func(f *api.Font, n int) { sub(f, kind).In = append(one(n), []int{}) }, 1, 15),
			counts("nests many", 0, 16, func(f *api.Font, n int) { sub(f, kind).Nests = times(n, api.Nest{Lookup: last}) }),
			ends("nest at", 0, 4, func(f *api.Font, n int) { sub(f, kind).In = one(5); nest(f).At = n }),
			ends("nest at", 0, 15, func(f *api.Font, n int) { sub(f, kind).In = one(16); nest(f).At = n }),
			ends("nest at", 0, 0, func(f *api.Font, n int) { sub(f, kind).In = one(1); nest(f).At = n }),
			at("", func(f *api.Font, n int) { nest(f).Lookup = n }, up(first, last-first+1)...),
			at("nest sort", func(f *api.Font, n int) { nest(f).Lookup = n }, others...),
			at("nest lookup", func(f *api.Font, n int) { nest(f).Lookup = n }, -1, -2, 12, 13, math.MinInt, math.MaxInt),
			at("", func(f *api.Font, n int) { nest(f).Lookup = n; f.Lookups[n].Subs = nil }, up(first, last-first+1)...),
			at("lookup kind, nest sort", func(f *api.Font, n int) {
				f.Lookups = append(f.Lookups, api.Lookup{Kind: n})
				nest(f).Lookup = 12
			}, 0, 13, -1),
			at("nest at, nest lookup", func(f *api.Font, n int) { *nest(f) = api.Nest{At: n, Lookup: n} }, -1, 12, math.MinInt, math.MaxInt),
		)
		checkRows(t, wide, []row{
			{"", func(f *api.Font) {
				f.Lookups[kind-1].Subs = []api.Sub{{In: times(16, up(0, 4096)), Nests: times(16, api.Nest{At: 15, Lookup: kind - 1})}}
			}},
			{"in glyph, in many", func(f *api.Font) { f.Lookups[kind-1].Subs = []api.Sub{{In: [][]int{up(0, 4096), up(0, 4097)}}} }},
		})
	}
	for _, kind := range []int{api.LkContext, api.LkPosContext, api.LkReverse} {
		checkRows(t, full,
			counts("back count", 0, 16, func(f *api.Font, n int) { sub(f, kind).Back = one(n) }),
			counts("ahead count", 0, 16, func(f *api.Font, n int) { sub(f, kind).Ahead = one(n) }),
			covered("back", func(f *api.Font, list []int) { sub(f, kind).Back = [][]int{list} }),
			covered("ahead", func(f *api.Font, list []int) { sub(f, kind).Ahead = [][]int{list} }),
			covered("back", func(f *api.Font, list []int) { sub(f, kind).Back = append(one(15), list) }),
			covered("ahead", func(f *api.Font, list []int) { sub(f, kind).Ahead = append(one(15), list) }),
		)
		checkRows(t, wide, []row{
			{"ahead glyph, ahead many, back glyph, back many", func(f *api.Font) {
				f.Lookups[kind-1].Subs = []api.Sub{{Back: [][]int{up(0, 4097)}, Ahead: [][]int{up(-1, 4097)}}}
				if kind != api.LkReverse {
					f.Lookups[kind-1].Subs[0].In = [][]int{nil}
				}
			}},
		})
	}
}

func TestP21_1Adjust(t *testing.T) {
	checkRows(t, full,
		covered("cover", func(f *api.Font, list []int) {
			s := sub(f, api.LkAdjust)
			s.Cover, s.Values = list, make([]api.Value, len(list))
		}),
		at("values count", func(f *api.Font, n int) { sub(f, api.LkAdjust).Values = make([]api.Value, n) }, 0, 1, 3, 4, 4097),
		at("values count", func(f *api.Font, n int) { sub(f, api.LkAdjust).Cover = up(0, n) }, 0, 1, 3, 8),
		measures("value", func(f *api.Font, n int) { sub(f, api.LkAdjust).Values[0].Adv = n }),
		measures("value", func(f *api.Font, n int) { sub(f, api.LkAdjust).Values[0].DX = n }),
		measures("value", func(f *api.Font, n int) { sub(f, api.LkAdjust).Values[0].DY = n }),
		measures("value", func(f *api.Font, n int) { sub(f, api.LkAdjust).Values[1].DY = n }),
	)
	checkRows(t, wide,
		at("", func(f *api.Font, n int) {
			f.Lookups[5].Subs = []api.Sub{{Cover: up(0, n), Values: make([]api.Value, n)}}
		}, 4095, 4096),
		at("cover glyph, cover many", func(f *api.Font, n int) {
			f.Lookups[5].Subs = []api.Sub{{Cover: up(0, n), Values: make([]api.Value, n)}}
		}, 4097),
	)
}

func TestP21_1Pair(t *testing.T) {
	pair := func(f *api.Font) *api.Pair { return &sub(f, api.LkPair).Pairs[0] }
	set := func(f *api.Font, glyphs ...int) {
		sub(f, api.LkPair).Pairs = indexed(len(glyphs)/2, func(i int) api.Pair { return api.Pair{First: glyphs[2*i], Second: glyphs[2*i+1]} })
	}
	var rows []row
	for _, c := range []struct {
		broken string
		glyphs []int
	}{
		{"", nil}, {"", []int{0, 0}}, {"", []int{7, 7}}, {"", []int{0, 0, 0, 1}}, {"", []int{0, 7, 1, 0}}, {"", []int{1, 7, 2, 0, 2, 1}}, {"", []int{0, 5, 1, 5, 2, 5}}, {"", []int{6, 6, 6, 7, 7, 6}},
		{"pairs order", []int{0, 0, 0, 0}}, {"pairs order", []int{1, 2, 1, 2}}, {"pairs order", []int{1, 2, 1, 1}}, {"pairs order", []int{2, 1, 1, 2}}, {"pairs order", []int{2, 1, 1, 1}}, {"pairs order", []int{2, 1, 1, 0}}, {"pairs order", []int{1, 1, 2, 2, 2, 2}}, {"pairs order", []int{1, 1, 2, 2, 1, 2}}, {"pairs order", []int{1, 1, 2, 2, 2, 1}}, {"pairs order", []int{7, 0, 0, 7, 1, 0}},
		{"pair glyph", []int{0, 8}}, {"pair glyph", []int{8, 0}}, {"pair glyph", []int{0, -1}}, {"pair glyph", []int{-1, 0}}, {"pair glyph", []int{0, 0, 0, 8}}, {"pair glyph", []int{0, 0, 8, 0}}, {"pair glyph", []int{0, -1, 0, 0}}, {"pair glyph, pairs order", []int{8, 0, 7, 0}},
	} {
		rows = append(rows, row{c.broken, func(f *api.Font) { set(f, c.glyphs...) }})
	}
	checkRows(t, full, rows,
		ends("pair glyph", 0, 7, func(f *api.Font, n int) { set(f, n, 3) }),
		ends("pair glyph", 0, 7, func(f *api.Font, n int) { set(f, 3, n) }),
		measures("pair value", func(f *api.Font, n int) { pair(f).A.Adv = n }),
		measures("pair value", func(f *api.Font, n int) { pair(f).A.DX = n }),
		measures("pair value", func(f *api.Font, n int) { pair(f).A.DY = n }),
		measures("pair value", func(f *api.Font, n int) { pair(f).B.Adv = n }),
		measures("pair value", func(f *api.Font, n int) { pair(f).B.DX = n }),
		measures("pair value", func(f *api.Font, n int) { pair(f).B.DY = n }),
		measures("pair value", func(f *api.Font, n int) { sub(f, api.LkPair).Pairs[2].B.DY = n }),
	)
	checkRows(t, wide, counts("pairs many", 0, 4096, func(f *api.Font, n int) {
		f.Lookups[6].Subs = []api.Sub{{Pairs: indexed(n, func(i int) api.Pair { return api.Pair{First: i / 3, Second: i % 3} })}}
	}))
}

func TestP21_1Cursive(t *testing.T) {
	curs := func(f *api.Font, i int) *api.Curs { return &sub(f, api.LkCursive).Curs[i] }
	var rows []row
	for _, a := range []api.Anchor{{X: 1}, {Y: 1}, {X: -1}, {Y: -1}, {X: 3, Y: 4}, {X: 1, Y: -1}, {X: 1048576, Y: -1048576}} {
		for i := range 4 {
			absent := func(has bool) string { return map[bool]string{true: "", false: "curs absent"}[has] }
			entry, exit := i == 0 || i == 2, i < 2
			rows = append(rows, row{absent(entry), func(f *api.Font) { curs(f, i).Entry = a }}, row{absent(exit), func(f *api.Font) { curs(f, i).Exit = a }})
		}
	}
	checkRows(t, full, rows,
		measures("curs anchor", func(f *api.Font, n int) { curs(f, 0).Entry.X = n }),
		measures("curs anchor", func(f *api.Font, n int) { curs(f, 0).Entry.Y = n }),
		measures("curs anchor", func(f *api.Font, n int) { curs(f, 0).Exit.X = n }),
		measures("curs anchor", func(f *api.Font, n int) { curs(f, 0).Exit.Y = n }),
		at("curs absent, curs anchor", func(f *api.Font, n int) { curs(f, 3).Entry.X = n }, -1048577, 1048577, math.MinInt),
		at("curs absent, curs anchor", func(f *api.Font, n int) { curs(f, 3).Exit.Y = n }, -1048577, 1048577, math.MaxInt),
		rises("curs order", func(f *api.Font, list ...int) {
			sub(f, api.LkCursive).Curs = indexed(len(list), func(i int) api.Curs { return api.Curs{Glyph: list[i]} })
		}),
		ends("curs glyph", 0, 7, func(f *api.Font, n int) { sub(f, api.LkCursive).Curs = []api.Curs{{Glyph: n}} }),
		at("curs glyph", func(f *api.Font, n int) { curs(f, 3).Glyph = n }, 8, 9, math.MaxInt),
	)
	many := func(f *api.Font, n int) {
		f.Lookups[7].Subs = []api.Sub{{Curs: indexed(n, func(i int) api.Curs { return api.Curs{Glyph: i} })}}
	}
	checkRows(t, wide, at("", many, 0, 1, 4095, 4096), at("curs glyph, curs many", many, 4097, 4098))
}

func TestP21_1Marks(t *testing.T) {
	for _, kind := range []int{api.LkMarkBase, api.LkMarkLig, api.LkMarkMark} {
		mark := func(f *api.Font) *api.MarkAt { return &sub(f, kind).Marks[0] }
		marks := func(f *api.Font, list []int) {
			sub(f, kind).Marks = indexed(len(list), func(i int) api.MarkAt { return api.MarkAt{Glyph: list[i], Class: 15 - i%16} })
		}
		checkRows(t, full,
			ends("mark glyph", 0, 7, func(f *api.Font, n int) { marks(f, []int{n}) }),
			at("mark glyph", func(f *api.Font, n int) { marks(f, []int{3, n}) }, 8, 9, math.MaxInt),
			rises("marks order", func(f *api.Font, list ...int) { marks(f, list) }),
			ends("mark class", 0, 15, func(f *api.Font, n int) { mark(f).Class = n }),
			measures("mark anchor", func(f *api.Font, n int) { mark(f).At.X = n }),
			measures("mark anchor", func(f *api.Font, n int) { mark(f).At.Y = n }),
			ends("mark class", 0, 15, func(f *api.Font, n int) {
				sub(f, kind).Marks = []api.MarkAt{{Glyph: 6}, {Glyph: 7, Class: n}}
			}),
		)
		checkRows(t, wide,
			at("", func(f *api.Font, n int) { f.Lookups[kind-1].Subs = make([]api.Sub, 1); marks(f, up(0, n)) }, 4095, 4096),
			at("mark glyph, marks many", func(f *api.Font, n int) { f.Lookups[kind-1].Subs = make([]api.Sub, 1); marks(f, up(0, n)) }, 4097, 4098),
		)
	}
}

func TestP21_1Hosts(t *testing.T) {
	for _, kind := range []int{api.LkMarkBase, api.LkMarkLig, api.LkMarkMark} {
		host := func(f *api.Font) *api.Host { return &sub(f, kind).Hosts[0] }
		hosts := func(f *api.Font, list []int) {
			sub(f, kind).Hosts = indexed(len(list), func(i int) api.Host { return api.Host{Glyph: list[i], Spots: [][]api.Spot{nil}} })
		}
		spots := func(f *api.Font) []api.Spot { return host(f).Spots[0] }
		spot := func(f *api.Font, s api.Spot) { host(f).Spots[0] = []api.Spot{{}, {Has: true}, s} }
		checkRows(t, full,
			ends("host glyph", 0, 7, func(f *api.Font, n int) { hosts(f, []int{n}) }),
			at("host glyph", func(f *api.Font, n int) { hosts(f, []int{3, n}) }, 8, 9, math.MaxInt),
			rises("hosts order", func(f *api.Font, list ...int) { hosts(f, list) }),
			counts("spots many", 0, 16, func(f *api.Font, n int) { host(f).Spots[0] = make([]api.Spot, n) }),
			measures("spot anchor", func(f *api.Font, n int) { spots(f)[0].At.X = n }),
			measures("spot anchor", func(f *api.Font, n int) { spots(f)[0].At.Y = n }),
			measures("spot anchor", func(f *api.Font, n int) { spot(f, api.Spot{Has: true, At: api.Anchor{Y: n}}) }),
			at("spot absent", func(f *api.Font, n int) { spot(f, api.Spot{At: api.Anchor{X: n}}) }, -1048576, -1, 1, 1048576),
			at("spot absent", func(f *api.Font, n int) { spot(f, api.Spot{At: api.Anchor{Y: n}}) }, -1048576, -1, 1, 1048576),
			at("spot absent, spot anchor", func(f *api.Font, n int) { spot(f, api.Spot{At: api.Anchor{X: n}}) }, -1048577, 1048577, math.MinInt),
			[]row{
				{"host parts", func(f *api.Font) { host(f).Spots = nil }}, {"host parts", func(f *api.Font) { host(f).Spots = [][]api.Spot{} }},
				{"", func(f *api.Font) { host(f).Spots = [][]api.Spot{nil} }}, {"", func(f *api.Font) { host(f).Spots = [][]api.Spot{make([]api.Spot, 16)} }},
			},
		)
		checkRows(t, wide,
			at("", func(f *api.Font, n int) { f.Lookups[kind-1].Subs = make([]api.Sub, 1); hosts(f, up(0, n)) }, 4095, 4096),
			at("host glyph, hosts many", func(f *api.Font, n int) { f.Lookups[kind-1].Subs = make([]api.Sub, 1); hosts(f, up(0, n)) }, 4097, 4098),
		)
	}
	parts := func(kind int) func(f *api.Font, n int) {
		return func(f *api.Font, n int) { sub(f, kind).Hosts[0].Spots = make([][]api.Spot, n) }
	}
	checkRows(t, full,
		counts("host parts", 1, 16, parts(api.LkMarkLig)),
		at("host parts", parts(api.LkMarkBase), 0, 2, 3, 16, 17), at("", parts(api.LkMarkBase), 1),
		at("host parts", parts(api.LkMarkMark), 0, 2, 3, 16, 17), at("", parts(api.LkMarkMark), 1),
		counts("spots many", 0, 16, func(f *api.Font, n int) {
			sub(f, api.LkMarkLig).Hosts[1].Spots = append(make([][]api.Spot, 15), make([]api.Spot, n))
		}),
		at("spot absent", func(f *api.Font, n int) { sub(f, api.LkMarkLig).Hosts[0].Spots[2][1].At.X = n }, -1, 1),
	)
}

// A field that doesn't belong to the kind of a lookup.
func TestP21_1Fields(t *testing.T) {
	for kind := 1; kind <= 12; kind++ {
		for i := range reflect.TypeFor[api.Sub]().NumField() {
			name := reflect.TypeFor[api.Sub]().Field(i).Name
			if slices.Contains(strings.Fields(belongs()[kind]), name) {
				continue
			}
			field := func(f *api.Font) reflect.Value { return reflect.ValueOf(sub(f, kind)).Elem().FieldByName(name) }
			set := func(f *api.Font, n int) { field(f).Set(reflect.MakeSlice(field(f).Type(), n, n)) }
			checkRows(t, full, at("", set, 0), at("field", set, 1, 2, 16))
			f := full()
			for _, other := range f.Lookups { // what would be right in another lookup
				given := reflect.ValueOf(other.Subs[0]).FieldByName(name)
				if given.Len() > 0 {
					checkRows(t, full, []row{{"field", func(f *api.Font) { field(f).Set(given) }}})
				}
			}
		}
	}
}

func TestP21_1Feats(t *testing.T) {
	tag := func(f *api.Font, tag string) { f.Feats[0].Tag = tag }
	var rows []row
	for text, broken := range map[string]string{
		"": "tag", "l": "tag", "lig": "tag", "ligas": "tag", "ligaliga": "tag", "!!!!": "", "~~~~": "", "LIGA": "", "0000": "", "l\"#$": "", "}|{`": "",
		"éab": "tag", "é": "tag", "éé": "tag", "語x": "tag", "\U0001F600": "tag", "abc\xff": "tag", "\x80abc": "tag", "abcé": "tag", "ab\ufffd": "tag",
	} {
		rows = append(rows, row{broken, func(f *api.Font) { tag(f, text) }})
	}
	for i := range 4 {
		set := func(f *api.Font, n int) {
			text := []byte("liga")
			text[i] = byte(n)
			tag(f, string(text))
		}
		rows = slices.Concat(rows, at("tag", set, 0, 1, 9, 10, 31, 32, 127, 128, 129, 160, 161, 254, 255), at("", set, 33, 34, 'A', 125, 126))
	}
	checkRows(t, full, rows,
		ends("script", -1, 11, func(f *api.Font, n int) { f.Feats[0].Tag, f.Feats[0].Script = "kern", n }),
		at("", func(f *api.Font, n int) { f.Feats[2].Script = n }, up(-1, 13)...),
		rises("feat order", func(f *api.Font, list ...int) { f.Feats[0].Lookups = list }),
		ends("feat lookup", 0, 11, func(f *api.Font, n int) { f.Feats[0].Lookups = []int{n} }),
		at("feat lookup", func(f *api.Font, n int) { f.Feats[1].Lookups = []int{3, 11, n} }, 12, 13, math.MaxInt),
		at("feat lookup", func(f *api.Font, n int) { f.Feats[1].Lookups = []int{n, 3, 11} }, -1, math.MinInt),
		[]row{
			{"feat twice", func(f *api.Font) { f.Feats[0].Script = api.ScArabic }},
			{"feat twice", func(f *api.Font) { f.Feats = append(f.Feats, f.Feats[0]) }},
			{"feat twice", func(f *api.Font) { f.Feats = append(f.Feats, f.Feats[2]) }},
			{"feat twice", func(f *api.Font) { f.Feats[2].Tag = "liga" }},
			{"feat twice", func(f *api.Font) { f.Feats = []api.Feat{{Tag: "aaaa", Lookups: []int{1}}, {Tag: "aaaa"}} }},
			{"", func(f *api.Font) {
				f.Feats = []api.Feat{{Tag: "aaaa", Script: 1}, {Tag: "aaaa", Script: 2}, {Tag: "aaaa"}}
			}},
			{"", func(f *api.Font) { f.Feats = []api.Feat{{Tag: "aaaa"}, {Tag: "aaab"}, {Tag: "Aaaa"}, {Tag: "baaa"}} }},
			{"", func(f *api.Font) { f.Feats = nil }}, {"", func(f *api.Font) { f.Feats = []api.Feat{} }},
		},
	)
	feats := func(f *api.Font, n int) {
		f.Feats = indexed(n, func(i int) api.Feat { return api.Feat{Tag: "abc" + string(rune('!'+i/10)), Script: i % 10} })
	}
	checkRows(t, small,
		counts("feats many", 0, 64, feats),
		at("feat twice", func(f *api.Font, n int) { feats(f, 64); f.Feats[n] = f.Feats[63-n] }, 0, 1, 31, 32, 63),
		at("tag", func(f *api.Font, n int) { feats(f, 64); f.Feats[n].Tag = "abcde" }, 0, 31, 63),
	)
	lookups := func(f *api.Font, n int) {
		f.Lookups = times(64, api.Lookup{Kind: 1})
		f.Feats = []api.Feat{{Tag: "many", Lookups: up(64-n, n)}}
	}
	checkRows(t, small, at("", lookups, 0, 1, 63, 64), at("feat lookup, feat many", lookups, 65, 66), []row{{"feat many, feat order", func(f *api.Font) {
		lookups(f, 64)
		f.Feats[0].Lookups = append(f.Feats[0].Lookups, 63)
	}}})
}

// ruin makes of a number, a text or a list what no field of a valid font may be, or what few may be.
func ruin(v reflect.Value, much bool) {
	switch v.Kind() {
	case reflect.Slice:
		v.SetZero()
		if much {
			v.Set(reflect.MakeSlice(v.Type(), 70, 70))
		}
	case reflect.String:
		v.SetString("")
	case reflect.Int32:
		v.SetInt(-1)
	case reflect.Int:
		v.SetInt(-1 << 40)
		if much {
			v.SetInt(1 << 40)
		}
	}
}

// Two fields at once that are not right, in each of the structs of a font: one fault doesn't make good for the other.
func TestP21_1TwoFaults(t *testing.T) {
	f := full()
	for at, v := range listed(&f) {
		if v.Kind() != reflect.Struct {
			continue
		}
		count := 0
		fields(v, func(reflect.Value) { count++ })
		for way := range count * count * 4 {
			i, k, one, other := way/4/count, way/4%count, way&1 > 0, way&2 > 0
			if i > k {
				continue
			}
			g, n := deep(f, 0), 0
			fields(listed(&g)[at], func(field reflect.Value) {
				if n == i {
					ruin(field, one)
				} else if n == k {
					ruin(field, other)
				}
				n++
			})
			if got := Check(g); (got == api.OK) != (faults(g) == "") || got != api.OK && got != api.ErrFont {
				t.Fatalf("value %d, fields %d and %d: %d, broken: %s", at, i, k, got, faults(g))
			}
		}
	}
}

// oneFaults are changes of full, each of which breaks a clause.
func oneFaults() []func(f *api.Font) {
	list := []func(f *api.Font){
		func(f *api.Font) { f.Em = 0 }, func(f *api.Font) { f.Glyphs[3].Adv = 1048577 }, func(f *api.Font) { f.Glyphs[3].Attach = 256 }, func(f *api.Font) { f.Glyphs[3].Carets = []int{1048577} }, func(f *api.Font) { f.Glyphs[3].Carets = []int{2, 1} }, func(f *api.Font) { f.Glyphs[3].Kind = api.GkMark }, func(f *api.Font) { f.Glyphs[7].Kind = 4 }, func(f *api.Font) { f.Glyphs[7].Attach = -1 }, func(f *api.Font) { f.Glyphs[6].Carets = up(0, 16) },
		func(f *api.Font) { f.Maps[3].Code = 0x110000 }, func(f *api.Font) { f.Maps[3].Glyph = 8 }, func(f *api.Font) { f.Maps[0].Code = 'c' }, func(f *api.Font) { f.Maps[0].Code = -1 },
		func(f *api.Font) { f.Sets = append(f.Sets, make([][]int, 14)...) }, func(f *api.Font) { f.Sets[2] = []int{8} }, func(f *api.Font) { f.Sets[0] = []int{4, 4} },
		func(f *api.Font) { f.Lookups = append(f.Lookups, times(53, api.Lookup{Kind: 1})...) }, func(f *api.Font) { f.Lookups[1] = api.Lookup{Kind: 13} }, func(f *api.Font) { f.Lookups[1].Flags = 65536 }, func(f *api.Font) { f.Lookups[11].Flags = 1 }, func(f *api.Font) { f.Lookups[11].Set = 1 }, func(f *api.Font) { f.Lookups[2].Set = -1 }, func(f *api.Font) { f.Lookups[0].Subs = make([]api.Sub, 65) },
		func(f *api.Font) { sub(f, 1).Cover[1] = 8 }, func(f *api.Font) { sub(f, 1).Cover[0] = 2 }, func(f *api.Font) { sub(f, 1).To[1] = nil }, func(f *api.Font) { sub(f, 1).To[1][0] = -1 }, func(f *api.Font) { sub(f, 1).To = sub(f, 1).To[:1] }, func(f *api.Font) { sub(f, 1).Back = [][]int{{}} },
		func(f *api.Font) { sub(f, 3).Cover[1] = 8 }, func(f *api.Font) { sub(f, 3).Cover = []int{1} }, func(f *api.Font) { sub(f, 3).Ligs[0][1].Glyph = 8 }, func(f *api.Font) { sub(f, 3).Ligs[0][1].Parts = nil }, func(f *api.Font) { sub(f, 3).Ligs[0][1].Parts = []int{8} }, func(f *api.Font) { sub(f, 3).Ligs[1] = times(4096, api.Lig{Parts: []int{1}}) },
		func(f *api.Font) { sub(f, 5).Back = [][]int{{8}} }, func(f *api.Font) { sub(f, 5).Ahead = [][]int{{8}} }, func(f *api.Font) { sub(f, 5).To[0] = nil }, func(f *api.Font) { sub(f, 6).Cover[0] = 2 }, func(f *api.Font) { sub(f, 6).Values[1].DY = 1048577 }, func(f *api.Font) { sub(f, 6).Values = append(sub(f, 6).Values, api.Value{}) }, func(f *api.Font) { sub(f, 6).Values[1].DX = 1048577 }, func(f *api.Font) { sub(f, 6).Values[1].Adv = 1048577 },
		func(f *api.Font) { sub(f, 7).Pairs[2].First = 8 }, func(f *api.Font) { sub(f, 7).Pairs[2].Second = 8 }, func(f *api.Font) { sub(f, 7).Pairs[2].A.Adv = 1048577 }, func(f *api.Font) { sub(f, 7).Pairs[2].B.Adv = 1048577 }, func(f *api.Font) { sub(f, 7).Pairs[1].Second = 1 },
		func(f *api.Font) { sub(f, 8).Curs[3].Glyph = 8 }, func(f *api.Font) { sub(f, 8).Curs[3].Entry.X = 1 }, func(f *api.Font) { sub(f, 8).Curs[3].Exit.X = 1048577 }, func(f *api.Font) { sub(f, 8).Curs[0].Glyph = 2 }, func(f *api.Font) { sub(f, 8).Curs[3].Exit.Y = 1 },
		func(f *api.Font) { f.Feats[1].Tag = "lig" }, func(f *api.Font) { f.Feats[1].Script = 12 }, func(f *api.Font) { f.Feats[1].Lookups = []int{12} }, func(f *api.Font) { f.Feats[1].Lookups = []int{1, 1} }, func(f *api.Font) { f.Feats[2] = f.Feats[0] }, func(f *api.Font) { f.Feats = append(f.Feats, make([]api.Feat, 62)...) }, func(f *api.Font) { f.Feats[1].Tag = "li\x20a" },
	}
	for _, kind := range []int{api.LkContext, api.LkPosContext} {
		list = append(list, func(f *api.Font) { sub(f, kind).In[0] = []int{8} }, func(f *api.Font) { sub(f, kind).In = append(sub(f, kind).In, make([][]int, 16)...) }, func(f *api.Font) { sub(f, kind).Back = [][]int{{3, 3}} }, func(f *api.Font) { sub(f, kind).Ahead = make([][]int, 17) },
			func(f *api.Font) { sub(f, kind).Nests[1].At = -1 }, func(f *api.Font) { sub(f, kind).Nests[1].Lookup = 12 - kind }, func(f *api.Font) { sub(f, kind).Nests[1].Lookup = 99 }, func(f *api.Font) { sub(f, kind).Nests = times(17, api.Nest{Lookup: kind - 1}) }, func(f *api.Font) { sub(f, kind).Cover = []int{1} })
	}
	for _, kind := range []int{api.LkMarkBase, api.LkMarkLig, api.LkMarkMark} {
		mark := func(f *api.Font) *api.MarkAt { return &sub(f, kind).Marks[len(sub(f, kind).Marks)-1] }
		host := func(f *api.Font) *api.Host { return &sub(f, kind).Hosts[len(sub(f, kind).Hosts)-1] }
		list = append(list, func(f *api.Font) { mark(f).Glyph = 8 }, func(f *api.Font) { mark(f).Class = 16 }, func(f *api.Font) { mark(f).At.X = 1048577 }, func(f *api.Font) { sub(f, kind).Marks = append(sub(f, kind).Marks, api.MarkAt{}) }, func(f *api.Font) { sub(f, kind).Hosts = append(sub(f, kind).Hosts, *host(f)) },
			func(f *api.Font) { host(f).Glyph = 8 }, func(f *api.Font) { host(f).Spots = nil }, func(f *api.Font) { host(f).Spots = make([][]api.Spot, 17) }, func(f *api.Font) { host(f).Spots[0] = make([]api.Spot, 17) }, func(f *api.Font) { host(f).Spots[0] = []api.Spot{{At: api.Anchor{X: 1}}} }, func(f *api.Font) { host(f).Spots[0] = []api.Spot{{Has: true, At: api.Anchor{Y: 1048577}}} })
	}
	return list
}

// Two clauses broken at once, each with each other one.
func TestP21_1TwoClauses(t *testing.T) {
	list := oneFaults()
	for i := range list {
		f := full()
		list[i](&f)
		if judge(t, f) == "" {
			t.Fatalf("change %d breaks nothing", i)
		}
		for k := range i {
			f := full()
			list[i](&f)
			if !spoilsAgain(&f, list[k]) {
				continue
			}
			if got := Check(f); faults(f) == "" || got != api.ErrFont {
				t.Fatalf("changes %d and %d: %d, broken: %s", i, k, got, faults(f))
			}
		}
	}
}

// spoilsAgain makes another change, unless there is nothing left to be changed.
func spoilsAgain(f *api.Font, change func(f *api.Font)) (could bool) {
	defer func() { could = recover() == nil }()
	change(f)
	return true
}

// fields calls visit with each field of a struct but booleans, with those of the structs in it in their place.
func fields(v reflect.Value, visit func(field reflect.Value)) {
	for i := range v.NumField() {
		switch field := v.Field(i); field.Kind() {
		case reflect.Struct:
			fields(field, visit)
		case reflect.Bool:
		default:
			visit(field)
		}
	}
}

// spoilt returns a copy of f in which something is changed, or several things.
func spoilt(next func(int) int, f api.Font) api.Font {
	f = deep(f, 0)
	for range 1 + next(4)*next(2) {
		var all []reflect.Value
		parts(reflect.ValueOf(&f).Elem(), func(v reflect.Value) {
			if v.Kind() != reflect.Struct {
				all = append(all, v)
			}
		})
		change(next, f, all[next(len(all))])
	}
	return f
}

// change changes a value of f.
func change(next func(int) int, f api.Font, v reflect.Value) {
	numbers := []int{-1048577, -1048576, -2, -1, 0, 1, 2, 3, 4, 15, 16, 17, 32, 33, 255, 256, 16384, 16385, 65536, 1048576, 1048577, len(f.Glyphs) - 1, len(f.Glyphs), len(f.Lookups) - 1, len(f.Lookups), len(f.Sets)}
	switch v.Kind() {
	case reflect.Slice:
		changeList(next, v)
	case reflect.String:
		v.SetString([]string{"liga", "kern", "lig", "ligas", "li a", "\x7figa", "!~!~"}[next(7)])
	case reflect.Bool:
		v.SetBool(!v.Bool())
	default:
		if next(2) == 0 {
			v.SetInt(v.Int() + int64(next(5)-2))
		} else {
			v.SetInt(int64(numbers[next(len(numbers))]))
		}
	}
}

// changeList changes the order or the number of the elements of a list.
func changeList(next func(int) int, v reflect.Value) {
	n := v.Len()
	switch {
	case n == 0 || next(4) == 0:
		v.Set(reflect.Append(v, reflect.Zero(v.Type().Elem())))
	case next(3) == 0:
		v.Set(reflect.Append(v, v.Index(next(n))))
	case next(2) == 0:
		v.Set(v.Slice(0, next(n)))
	default:
		reflect.Swapper(v.Interface())(next(n), next(n))
	}
}

// Fonts with something changed, most of them valid no more.
func TestP21_1Changed(t *testing.T) {
	next := stream()
	count := map[bool]int{}
	for _, f := range fonts(next, 1000) {
		for range 12 {
			count[judge(t, spoilt(next, f)) == ""]++
		}
	}
	if count[true] < 2000 || count[false] < 2000 {
		t.Errorf("%v", count)
	}
}

// Fonts of anything at all.
func TestP21_1Garbage(t *testing.T) {
	next := stream()
	for range 3000 {
		f := garbage(next)
		judge(t, f)
		f.Em, f.Glyphs, f.Maps, f.Feats, f.Sets = 1, make([]api.Info, 9), nil, nil, nil
		judge(t, f)
	}
}

func TestP21_1Sorts(t *testing.T) {
	want := map[int]int{1: 1, 2: 1, 3: 1, 4: 1, 5: 1, 6: 2, 7: 2, 8: 2, 9: 2, 10: 2, 11: 2, 12: 2}
	for kind := -70000; kind <= 70000; kind++ {
		if got := Sorts(kind); got != want[kind] {
			t.Errorf("Sorts(%d) = %d", kind, got)
		}
	}
	for _, kind := range []int{math.MinInt, math.MinInt + 1, math.MinInt32, -1 << 32, 1<<32 + 1, 1<<32 + 6, 1 << 62, math.MaxInt32, math.MaxInt - 1, math.MaxInt} {
		if got := Sorts(kind); got != 0 {
			t.Errorf("Sorts(%d) = %d", kind, got)
		}
	}
}
