package item

import (
	"math"
	"reflect"
	"slices"
	"strconv"
	"strings"
	"testing"

	"typecase/api"
	"typecase/fallback"
	"typecase/font"
	"typecase/grapheme"
	"typecase/hyphen"
	"typecase/levels"
	"typecase/script"
	"typecase/spans"
)

const (
	// most is the greatest number of elements of a list for which the document promises something (R8).
	most = 1 << 16
	// top is the greatest code point.
	top rune = 0x10FFFF
)

// reading collects the errors that the chapter has for a setting and a paragraph.
type reading struct {
	setting api.Setting
	para    api.Para
	errors  map[api.Errno]bool
}

// want notes an error unless the condition holds.
func (r *reading) want(e api.Errno, holds bool) {
	if !holds {
		r.errors[e] = true
	}
}

// from notes an ErrArg unless n is from least to most.
func (r *reading) from(n, least, most int) { r.want(api.ErrArg, n >= least && n <= most) }

// errorsByChapter returns all errors that a setting and a paragraph have.
func errorsByChapter(s api.Setting, p api.Para) map[api.Errno]bool {
	r := &reading{s, p, map[api.Errno]bool{}}
	for _, code := range p.Text {
		r.want(api.ErrText, code >= 0 && code <= 0xD7FF || code >= 0xE000 && code <= 0x10FFFF)
	}
	for _, f := range s.Fonts {
		r.want(api.ErrFont, font.Check(f) == api.OK)
	}
	r.settingArgs()
	r.paraArgs()
	r.want(api.ErrMany, len(s.Fonts) <= 8)
	r.want(api.ErrMany, len(s.Styles) <= 64)
	r.want(api.ErrMany, len(s.Patterns) <= 512)
	r.want(api.ErrMany, len(p.Tabs) <= 32)
	r.want(api.ErrMany, len(p.Text) <= 4096)
	return r.errors
}

func (r *reading) settingArgs() {
	s := r.setting
	r.want(api.ErrArg, len(s.Fonts) != 0)
	r.want(api.ErrArg, len(s.Styles) != 0)
	for _, style := range s.Styles {
		r.from(style.Font, 0, len(s.Fonts)-1)
		r.from(style.Size, 1, 16384)
		r.from(style.Space, -1048576, 1048576)
		r.from(style.Feats, 0, 65535)
	}
	for _, pattern := range s.Patterns {
		_, _, ok := hyphen.Parse(pattern)
		r.want(api.ErrArg, ok)
	}
	r.from(s.Every, 0, 1048576)
	r.from(s.Leading, 1, 1048576)
}

// separators are the code points of bidi class B.
func separators() []rune { return []rune{0xA, 0xD, 0x1C, 0x1D, 0x1E, 0x85, 0x2029} }

func (r *reading) paraArgs() {
	p, n := r.para, len(r.para.Text)
	for i, code := range p.Text {
		last := i == n-1
		beforeLast := i == n-2 && code == 0xD && p.Text[n-1] == 0xA
		r.want(api.ErrArg, !slices.Contains(separators(), code) || last || beforeLast)
	}
	// A list is whole if it is what comes of the values that it gives.
	vals := make([]int, n)
	for i := range vals {
		vals[i] = styleAt(p.Styles, i)
	}
	r.want(api.ErrArg, slices.Equal(p.Styles, wholeOf(vals)))
	for _, part := range p.Styles {
		r.from(part.Val, 0, len(r.setting.Styles)-1)
	}
	for i, tab := range p.Tabs {
		r.from(tab.At, 0, 268435456)
		r.from(tab.Kind, 0, 3)
		r.want(api.ErrArg, i == 0 || p.Tabs[i-1].At < tab.At)
	}
	r.from(p.Dir, 0, 2)
	r.from(p.Width, 1, 268435456)
	r.from(p.Align, 0, 3)
	r.from(p.Mode, 0, 1)
}

// checkByChapter is what Check is asked for.
func checkByChapter(s api.Setting, p api.Para) api.Errno {
	errors := errorsByChapter(s, p)
	for _, e := range []api.Errno{13, 12, 1, 5} {
		if errors[e] {
			return e
		}
	}
	return 0
}

// styleAt is the Val of the first span that contains position i, or 0.
func styleAt(list []api.Span, i int) int {
	for _, part := range list {
		if part.From <= i && i <= part.To-1 && part.From < part.To {
			return part.Val
		}
	}
	return 0
}

// wholeOf returns the whole spans that give each position its value.
func wholeOf(vals []int) []api.Span {
	var list []api.Span
	for i, val := range vals {
		if i == 0 || vals[i-1] != val {
			list = append(list, api.Span{From: i, Val: val})
		}
		list[len(list)-1].To = i + 1
	}
	return list
}

// kind is what makes a run: its level, script, font and style; and wish is the font of the style.
type kind struct{ level, script, font, style, wish int }

// kindsByChapter returns the kinds of the code points of a paragraph that has no error, from cluster to cluster.
func kindsByChapter(s api.Setting, p api.Para) []kind {
	high, _, e := levels.Of(p.Text, p.Dir)
	if e != api.OK {
		panic(e)
	}
	scripts := script.Resolve(p.Text)
	var kinds []kind
	ahead := api.None
	for at := 0; at < len(p.Text); {
		to := at + 1
		for !grapheme.Is(p.Text, to) {
			to++
		}
		k := kind{level: high[at], script: scripts[at], style: styleAt(p.Styles, at)}
		k.wish = s.Styles[k.style].Font
		k.font = fallback.Pick(s.Fonts, k.wish, p.Text[at:to], ahead)
		ahead = k.font
		for ; at < to; at++ {
			kinds = append(kinds, k)
		}
	}
	return kinds
}

// runsOf returns the runs of code points of such kinds, found from the end.
func runsOf(kinds []kind) []api.Run {
	var runs []api.Run
	for i := len(kinds) - 1; i >= 0; i-- {
		r := api.Run{From: i, To: i + 1, Level: kinds[i].level, Script: kinds[i].script, Font: kinds[i].font, Style: kinds[i].style}
		if len(runs) > 0 {
			next := &runs[len(runs)-1]
			if [4]int{next.Level, next.Script, next.Font, next.Style} == [4]int{r.Level, r.Script, r.Font, r.Style} {
				next.From = i
				continue
			}
		}
		runs = append(runs, r)
	}
	slices.Reverse(runs)
	return runs
}

// wishesOf returns the fonts of the styles of code points of such kinds.
func wishesOf(kinds []kind) []api.Span {
	var vals []int
	for _, k := range kinds {
		vals = append(vals, k.wish)
	}
	return wholeOf(vals)
}

// holds checks all functions against the chapter, together with what follows from it, and returns the error and the runs.
func holds(t *testing.T, s api.Setting, p api.Para) (api.Errno, []api.Run) {
	t.Helper()
	want := checkByChapter(s, p)
	if got := Check(s, p); got != want {
		t.Fatalf("Check is %d, not %d, for %s", got, want, shown(s, p))
	}
	runs, e := Runs(s, p)
	wishes := Prefer(s, p)
	if e != want {
		t.Fatalf("Runs returns error %d, not %d, for %s", e, want, shown(s, p))
	}
	if want != api.OK {
		if len(runs) != 0 || len(wishes) != 0 {
			t.Fatalf("beside the error %d there is %v and %v", want, runs, wishes)
		}
		return want, nil
	}
	kinds := kindsByChapter(s, p)
	if !slices.Equal(runs, runsOf(kinds)) {
		t.Fatalf("Runs is %v, not %v, for %s", runs, runsOf(kinds), shown(s, p))
	}
	if !slices.Equal(wishes, wishesOf(kinds)) {
		t.Fatalf("Prefer is %v, not %v, for %s", wishes, wishesOf(kinds), shown(s, p))
	}
	follows(t, s, p, runs, wishes)
	return want, runs
}

// follows checks P24.3, and that the runs are as the functions of other layers have them.
func follows(t *testing.T, s api.Setting, p api.Para, runs []api.Run, wishes []api.Span) {
	t.Helper()
	at := 0
	for i, r := range runs {
		if r.From != at || r.To <= r.From || i > 0 && Same(runs[i-1], r) || i > 0 && Same(r, runs[i-1]) || !Same(r, r) {
			t.Fatalf("%v for %s", runs, shown(s, p))
		}
		if !grapheme.Is(p.Text, r.From) || !grapheme.Is(p.Text, r.To) {
			t.Fatalf("%v divides a cluster of %s", runs, shown(s, p))
		}
		at = r.To
	}
	if at != len(p.Text) {
		t.Fatalf("%v for %d code points", runs, len(p.Text))
	}
	if !spans.Whole(wishes, len(p.Text)) {
		t.Fatalf("Prefer is %v", wishes)
	}
	fonts := fallback.Of(s.Fonts, p.Text, wishes)
	for _, r := range runs {
		if spans.At(fonts, r.From) != r.Font || spans.At(fonts, r.To-1) != r.Font || spans.At(p.Styles, r.From) != r.Style {
			t.Fatalf("%v and the fonts %v for %s", runs, fonts, shown(s, p))
		}
	}
}

// shown writes the setting and the paragraph for a message, with the mappings alone of the fonts.
func shown(s api.Setting, p api.Para) string {
	var fonts []string
	for _, f := range s.Fonts {
		fonts = append(fonts, told(f.Maps, false))
	}
	s.Fonts = nil
	return told(p, false) + " " + told(s, false) + " " + strings.Join(fonts, " ")
}

// sign returns the code point that stands for a letter of the texts written by hand: most stand for themselves.
func sign(letter rune) rune {
	switch letter {
	case 'r':
		return '\r'
	case 'n':
		return '\n'
	case 'p': // another one of bidi class B
		return 0x2029
	case 't':
		return '\t'
	case 'g': // Greek
		return 0x3B1
	case 'k': // Cyrillic
		return 0x43A
	case 'h': // Hebrew
		return 0x5D0
	case 'H':
		return 0x5D1
	case 'A': // Arabic
		return 0x628
	case '0': // Arabic, of bidi class AN
		return 0x660
	case 'd': // Devanagari
		return 0x915
	case ':': // Devanagari, a Spacing of bidi class L
		return 0x903
	case 'i': // Devanagari, an Extend
		return 0x902
	case 'w': // Han
		return 0x4E00
	case 'y': // Hangul, an L
		return 0x1100
	case 'Y': // Hangul, a V
		return 0x1160
	case '\'': // an Extend
		return 0x301
	case 'z': // ZWJ
		return 0x200D
	case 'o': // an Extend of bidi class BN
		return 0x200C
	case 'M': // an Extend of bidi class ON that is Common
		return 0x1F3FB
	case 's': // a Control of bidi class BN
		return 0xAD
	case 'P': // a Prepend of bidi class AN that is Common
		return 0x600
	case 'F': // a Regional
		return 0x1F1E6
	case '*': // a Picture
		return 0x1F466
	case 'L': // LRI
		return 0x2066
	case 'R': // RLI
		return 0x2067
	case 'I': // PDI
		return 0x2069
	case 'E': // RLE
		return 0x202B
	case 'e': // LRE
		return 0x202A
	case 'O': // RLO
		return 0x202E
	case 'D': // LRO
		return 0x202D
	case 'C': // PDF
		return 0x202C
	case '!': // a surrogate
		return 0xD800
	}
	return letter
}

// allLetters are the letters of texts that are valid and have no code point of bidi class B.
const allLetters = "abc gkhHA0d:iwyY'zoMsPF*LRIEeODC1()[],-$t"

// spell returns the text that is written with one letter for each code point; a dot is nothing.
func spell(letters string) []rune {
	var text []rune
	for _, letter := range strings.ReplaceAll(letters, ".", "") {
		text = append(text, sign(letter))
	}
	return text
}

// fontOf returns a font that has the code points.
func fontOf(codes ...rune) api.Font { return font.Plain(codes, 500) }

// fontsOf returns the fonts whose code points are written as words.
func fontsOf(words string) []api.Font {
	var fonts []api.Font
	for _, word := range strings.Fields(words) {
		fonts = append(fonts, fontOf(spell(word)...))
	}
	return fonts
}

// digits returns the numbers that are written as digits.
func digits(written string) []int {
	var list []int
	for _, digit := range written {
		list = append(list, int(digit-'0'))
	}
	return list
}

// stylesOf returns styles of the fonts that are written as digits.
func stylesOf(written string) []api.Style {
	var styles []api.Style
	for _, f := range digits(written) {
		styles = append(styles, api.Style{Font: f, Size: 10})
	}
	return styles
}

// settingOf returns a setting of fonts, and of styles with the font of each of them as a digit.
func settingOf(fonts, styles string) api.Setting {
	return api.Setting{Fonts: fontsOf(fonts), Styles: stylesOf(styles), Leading: 1}
}

// paraOf returns a paragraph, with the style of each code point as a digit; without digits, all are of style 0.
func paraOf(text, styles string, dir int) api.Para {
	p := api.Para{Text: spell(text), Dir: dir, Width: 100}
	vals := digits(styles)
	if styles == "" {
		vals = make([]int, len(p.Text))
	}
	p.Styles = wholeOf(vals)
	return p
}

// fullFont returns a valid font that has the code points, and lists in all of its fields.
func fullFont(codes ...rune) api.Font {
	f := fontOf(slices.Concat([]rune{'a', 'b', 'c', 'd'}, codes)...)
	f.Glyphs[1].Kind, f.Glyphs[1].Carets = api.GkLig, []int{100, 200}
	f.Lookups = []api.Lookup{
		{Kind: api.LkSingle, Subs: []api.Sub{{Cover: []int{1, 2}, To: [][]int{{2}, {1}}}}},
		{Kind: api.LkLigature, Subs: []api.Sub{{Cover: []int{1, 2}, Ligs: [][]api.Lig{{{Parts: []int{2}, Glyph: 3}}, {}}}}},
		{Kind: api.LkContext, Flags: api.OneSet, Subs: []api.Sub{{Back: [][]int{{1}}, In: [][]int{{1, 2}, {}}, Ahead: [][]int{{3}}, Nests: []api.Nest{{At: 1, Lookup: 0}}}}},
		{Kind: api.LkAdjust, Subs: []api.Sub{{Cover: []int{1}, Values: []api.Value{{Adv: 1}}}}},
		{Kind: api.LkPair, Subs: []api.Sub{{Pairs: []api.Pair{{First: 1, Second: 1}}}}},
		{Kind: api.LkCursive, Subs: []api.Sub{{Curs: []api.Curs{{Glyph: 1, HasEntry: true}}}}},
		{Kind: api.LkMarkBase, Subs: []api.Sub{{Marks: []api.MarkAt{{Glyph: 3}}, Hosts: []api.Host{{Glyph: 1, Spots: [][]api.Spot{{{Has: true}}}}}}}},
	}
	f.Feats = []api.Feat{{Tag: "liga", Script: api.None, Lookups: []int{0, 1}}}
	f.Sets = [][]int{{1, 2}}
	return f
}

// notCodes are no valid runes.
func notCodes() []rune {
	return []rune{
		math.MinInt32, math.MinInt32 + 1, -0x110000, -0x10FFFF, -256, -13, -10, -2, -1, 0xD800, 0xD801, 0xDBFF, 0xDC00, 0xDFFE, 0xDFFF,
		top + 1, top + 2, 0x11000A, 1 << 24, 1<<24 + 10, 1 << 30, math.MaxInt32 - 1, math.MaxInt32,
	}
}

// farInts are numbers that no field may have: those at the ends of the type, and those that would be small ones if bits were lost.
func farInts() []int {
	return []int{
		math.MinInt, math.MinInt + 1, math.MinInt + 2, -(1 << 32) - 1, -(1 << 32), -(1 << 32) + 1, -(1 << 32) + 2, -(1 << 31),
		1 << 31, 1<<32 - 1, 1 << 32, 1<<32 + 1, 1<<32 + 2, 1 << 48, math.MaxInt - 1, math.MaxInt,
	}
}

// lists calls visit with each list of at most longest of the given elements.
func lists[T any](longest int, among []T, visit func(list []T)) {
	count := 1
	for size := range longest + 1 {
		for code := range count {
			list := make([]T, size)
			for i := range list {
				list[i] = among[code%len(among)]
				code /= len(among)
			}
			visit(list)
		}
		count *= len(among)
	}
}

// stream returns a function that returns numbers from 0 up to n, the same ones each time.
func stream() func(n int) int {
	state := uint64(1)
	return func(n int) int {
		state = state*6364136223846793005 + 1442695040888963407
		return int(state >> 33 % uint64(n))
	}
}

// some returns a list of n of the given elements.
func some[T any](next func(int) int, n int, among []T) []T {
	list := make([]T, n)
	for i := range list {
		list[i] = among[next(len(among))]
	}
	return list
}

// someSetting returns a valid setting of up to n fonts, of some of the codes each, and up to n styles.
func someSetting(next func(int) int, n int, codes []rune) api.Setting {
	s := api.Setting{Every: next(100), Leading: 1 + next(100)}
	for range 1 + next(n) {
		s.Fonts = append(s.Fonts, fontOf(some(next, next(len(codes)+1), codes)...))
	}
	for range 1 + next(n) {
		s.Styles = append(s.Styles, api.Style{Font: next(len(s.Fonts)), Size: 1 + next(50), Space: next(9) - 4, Feats: next(16)})
	}
	s.Patterns = []string{"1b", "a1b", ".a2b"}[:next(4)]
	return s
}

// somePara returns a valid paragraph of n of the codes, in some of so many styles, each over up to stretch code points.
func somePara(next func(int) int, n int, codes []rune, styles, stretch int) api.Para {
	p := api.Para{Text: some(next, n, codes), Dir: next(3), Width: 1 + next(300), Align: next(4), Mode: next(2), Hyphen: next(2) == 0}
	for at := next(20); len(p.Tabs) < next(4); at += 1 + next(50) {
		p.Tabs = append(p.Tabs, api.Tab{At: at, Kind: next(4)})
	}
	if next(8) == 0 {
		p.Text = append(p.Text, separators()[next(7)])
	} else if next(8) == 0 {
		p.Text = append(p.Text, '\r', '\n')
	}
	var vals []int
	for len(vals) < len(p.Text) {
		vals = append(vals, slices.Repeat([]int{next(styles)}, 1+next(stretch))...)
	}
	p.Styles = wholeOf(vals[:len(p.Text)])
	return p
}

// told is all that a value holds, as a text; with what lies behind its lists in memory if room is true.
func told(x any, room bool) string {
	var text []byte
	var tell func(v reflect.Value)
	tell = func(v reflect.Value) {
		switch v.Kind() {
		case reflect.Struct:
			for i := range v.NumField() {
				tell(v.Field(i))
			}
		case reflect.Slice:
			text = strconv.AppendInt(append(text, '['), int64(v.Len()), 10)
			if room {
				v = v.Slice(0, v.Cap())
			}
			for i := range v.Len() {
				tell(v.Index(i))
			}
			text = append(text, ']')
		case reflect.String:
			text = strconv.AppendQuote(text, v.String())
		case reflect.Bool:
			text = strconv.AppendBool(append(text, ' '), v.Bool())
		default:
			text = strconv.AppendInt(append(text, ' '), v.Int(), 10)
		}
	}
	tell(reflect.ValueOf(x))
	return string(text)
}

// deep is a copy of a value, whose lists have so much room behind them, full of copies of their elements.
func deep[T any](x T, room int) T {
	var copied func(v reflect.Value) reflect.Value
	copied = func(v reflect.Value) reflect.Value {
		switch v.Kind() {
		case reflect.Struct:
			c := reflect.New(v.Type()).Elem()
			for i := range v.NumField() {
				c.Field(i).Set(copied(v.Field(i)))
			}
			return c
		case reflect.Slice:
			if v.Len()+room == 0 {
				return reflect.Zero(v.Type())
			}
			c := reflect.MakeSlice(v.Type(), v.Len()+room, v.Len()+room)
			for i := range c.Len() {
				if v.Len() > 0 {
					c.Index(i).Set(copied(v.Index(i % v.Len())))
				}
			}
			return c.Slice(0, v.Len())
		case reflect.String:
			return reflect.ValueOf(strings.Clone(v.String()))
		}
		return v
	}
	return copied(reflect.ValueOf(x)).Interface().(T)
}

// spoil writes to all memory of the lists within x, also to the room behind them.
func spoil(x any) {
	var write func(v reflect.Value, inList bool)
	write = func(v reflect.Value, inList bool) {
		switch v.Kind() {
		case reflect.Struct:
			for i := range v.NumField() {
				write(v.Field(i), inList)
			}
		case reflect.Slice:
			for i := range v.Cap() {
				write(v.Slice(0, v.Cap()).Index(i), true)
			}
		case reflect.String:
			if inList {
				v.SetString(v.String() + "!")
			}
		case reflect.Bool:
			if inList {
				v.SetBool(!v.Bool())
			}
		default:
			if inList {
				v.SetInt(int64(^int32(v.Int())))
			}
		}
	}
	write(reflect.ValueOf(x), false)
}
