package levels

import (
	"math"
	"slices"
	"strings"
	"testing"

	"typecase/api"
	"typecase/props"
)

// handRow is a pattern and its levels in a paragraph from left to right and in one from right to left, written by hand.
type handRow struct{ pattern, left, right string }

// checkRows checks Of against the rows.
func checkRows(t *testing.T, rows []handRow) {
	t.Helper()
	for _, row := range rows {
		text := spell(row.pattern)
		for base, want := range []string{row.left, row.right} {
			got, level, e := Of(text, api.DirLeft+base)
			if e != api.OK || level != base || !slices.Equal(got, digits(want)) {
				t.Errorf("%s at base %d: %v, base %d and %v, not %s", row.pattern, base, got, level, e, want)
			}
		}
		holds(t, text)
	}
}

// The code points of the tests' patterns are what they stand for; a mistake there would go unseen elsewhere.
func TestCodes(t *testing.T) {
	want := map[rune]int{
		'l': api.BidiL, 'r': api.BidiR, 'a': api.BidiAL, 'e': api.BidiEN, 's': api.BidiES, 't': api.BidiET, 'n': api.BidiAN, 'c': api.BidiCS, 'm': api.BidiNSM,
		'x': api.BidiBN, 'b': api.BidiB, 'k': api.BidiB, 'q': api.BidiB, 'g': api.BidiS, 'w': api.BidiWS, '.': api.BidiON,
		'L': api.BidiLRE, 'X': api.BidiLRO, 'R': api.BidiRLE, 'Y': api.BidiRLO, 'P': api.BidiPDF,
		'I': api.BidiLRI, 'J': api.BidiRLI, 'F': api.BidiFSI, 'D': api.BidiPDI,
		'<': api.BidiON, '>': api.BidiON, 'o': api.BidiON, 'u': api.BidiON,
	}
	all := letters()
	for letter, class := range want {
		if got := props.Of(all[letter]).Bidi; got != class {
			t.Errorf("%c is of class %d", letter, got)
		}
	}
	if len(all) != len(want) {
		t.Errorf("%d letters, of which %d are checked", len(all), len(want))
	}
	for _, bracket := range spell("()[]{}<>ou") {
		if p := props.Of(bracket); p.Pair == 0 || p.Bidi != api.BidiON {
			t.Errorf("%X is no bracket", bracket)
		}
	}
}

func TestP16_1Letters(t *testing.T) {
	checkRows(t, []handRow{
		{"", "", ""}, {"l", "0", "2"}, {"r", "1", "1"}, {"a", "1", "1"}, {"e", "0", "2"}, {"n", "2", "2"}, {"s", "0", "1"}, {"t", "0", "1"}, {"c", "0", "1"}, {"m", "0", "1"}, {".", "0", "1"}, {"w", "0", "1"}, {"g", "0", "1"}, {"b", "0", "1"}, {"k", "0", "1"}, {"q", "0", "1"}, {"x", "0", "1"},
		{"ll", "00", "22"}, {"lr", "01", "21"}, {"rl", "10", "12"}, {"ra", "11", "11"}, {"lwl", "000", "222"}, {"lwr", "001", "211"}, {"rwl", "100", "112"}, {"rwr", "111", "111"}, {"lw", "00", "21"}, {"wl", "00", "12"}, {"rw", "10", "11"}, {"wr", "01", "11"},
		{"lg.wl", "00000", "22222"}, {"rg.wa", "11111", "11111"}, {"l.r.l.l", "0010000", "2111222"}, {"r.l.r.r", "1000111", "1121111"}, {"lwlb", "0000", "2221"}, {"rwrb", "1110", "1111"}, {"lkb", "000", "211"}, {"rkb", "100", "111"}, {"rwq", "100", "111"},
		{"kb", "00", "11"}, {"r.kb", "1000", "1111"},
	})
}

func TestP16_1Numbers(t *testing.T) {
	checkRows(t, []handRow{
		{"le", "00", "22"}, {"re", "12", "12"}, {"ae", "12", "12"}, {"el", "00", "22"}, {"er", "01", "21"}, {"en", "02", "22"}, {"ne", "20", "22"}, {"ln", "02", "22"}, {"nl", "20", "22"}, {"rn", "12", "12"}, {"nr", "21", "21"},
		{"rwe", "112", "112"}, {"lwe", "000", "222"}, {"ewl", "000", "212"}, {"ewr", "001", "211"}, {"nwr", "211", "211"}, {"rwn", "112", "112"}, {"awe", "112", "112"}, {"lwn", "002", "212"}, {"nwl", "200", "212"}, {"nwn", "212", "212"}, {"ewe", "000", "212"}, {"ewn", "002", "212"}, {"nwe", "200", "212"},
		{"ece", "000", "222"}, {"ese", "000", "222"}, {"ncn", "222", "222"}, {"nsn", "212", "212"}, {"nce", "200", "212"}, {"rece", "1222", "1222"}, {"rese", "1222", "1222"}, {"aece", "1222", "1222"}, {"aese", "1212", "1212"}, {"lece", "0000", "2222"}, {"ecce", "0000", "2112"}, {"recse", "12112", "12112"},
		{"te", "00", "22"}, {"et", "00", "22"}, {"tte", "000", "222"}, {"ett", "000", "222"}, {"rte", "122", "122"}, {"ret", "122", "122"}, {"rtte", "1222", "1222"}, {"ate", "112", "112"}, {"aet", "120", "121"}, {"aetr", "1211", "1211"}, {"lte", "000", "222"}, {"ltn", "002", "212"}, {"rtr", "111", "111"}, {"retce", "12212", "12212"},
		{"lewr", "0001", "2211"}, {"rewl", "1200", "1212"}, {"rewr", "1211", "1211"}, {"aewl", "1200", "1212"}, {"lrle", "0100", "2122"}, {"lrae", "0112", "2112"}, {"areb", "1120", "1121"}, {"al.e", "1000", "1222"}, {"ar.e", "1112", "1112"},
	})
}

func TestP16_1Marks(t *testing.T) {
	checkRows(t, []handRow{
		{"lm", "00", "22"}, {"rm", "11", "11"}, {"rmm", "111", "111"}, {"em", "00", "22"}, {"rem", "122", "122"}, {"nm", "22", "22"}, {"am", "11", "11"}, {"ame", "112", "112"}, {"rme", "112", "112"}, {"ml", "00", "12"}, {"mr", "01", "11"}, {".m", "00", "11"}, {"r.mr", "1111", "1111"}, {"r.ml", "1000", "1112"}, {"wml", "000", "112"},
		{"tme", "000", "222"}, {"rtme", "1222", "1222"}, {"ecme", "0000", "2112"}, {"emce", "0000", "2222"}, {"remce", "12222", "12222"}, {"ncmn", "2112", "2112"},
		{"rgm", "100", "111"}, {"lxm", "000", "222"}, {"rxm", "111", "111"}, {"IDm", "000", "111"}, {"rIDm", "1000", "1111"}, {"rIDmr", "11111", "11111"}, {"lIDml", "00000", "22222"}, {"rIDml", "10000", "11112"}, {"ImD", "020", "121"}, {"JmD", "010", "131"},
	})
}

func TestP16_1Brackets(t *testing.T) {
	checkRows(t, []handRow{
		{"()", "00", "11"}, {"(l)", "000", "121"}, {"(r)", "010", "111"}, {"(e)", "000", "121"}, {"r(l)", "1000", "1121"}, {"r(r)", "1111", "1111"}, {"l(r)", "0010", "2111"}, {"l(l)", "0000", "2222"}, {"l(r)r", "00101", "21111"}, {"(r)r", "0101", "1111"}, {"(l)l", "0000", "1212"}, {"l(l)r", "00001", "22221"},
		{"r(e)", "1121", "1121"}, {"r(n)r", "11211", "11211"}, {"l(n)", "0020", "2121"}, {"l(e)", "0000", "2222"}, {"a(e)l", "11210", "11212"}, {"e(r)", "0010", "2111"}, {"n(r)l", "21110", "21112"}, {"n(l)l", "20000", "21212"}, {"r(l)r", "10001", "11211"}, {"r()r", "1111", "1111"}, {"r(.)r", "11111", "11111"}, {"r(.)l", "10000", "11112"}, {"l(.)r", "00001", "21111"},
		{"l(r.)", "00100", "21111"}, {"r(.l)", "10000", "11121"}, {"l(lr)r", "000101", "212111"}, {"r[r(l)r]", "10100010", "11112111"},
	})
	checkRows(t, []handRow{
		{"l[r(l)r]l", "001000100", "211121112"}, {"r[l(r)l]r", "100010001", "112111211"}, {"l[r(r)r]r", "001111101", "211111111"}, {"(l]r)", "00010", "12111"}, {"r(l]r)", "100010", "112111"}, {"([r)l]", "001000", "111121"}, {"r(]r)", "11111", "11111"}, {"l(r", "001", "211"}, {"l)r", "001", "211"},
		{"<r>", "010", "111"}, {"r<r>l", "11110", "11112"}, {"r<rul", "11110", "11112"}, {"ror>l", "11110", "11112"}, {"r{r}l", "11110", "11112"}, {"r{r)l", "11100", "11112"}, {"r(ruil", "111000", "111122"},
		{"l(r)m", "00100", "21111"}, {"r(r)m", "11111", "11111"}, {"r(r)ml", "111110", "111112"}, {"r(r)mml", "1111110", "1111112"}, {"r(mr)l", "111110", "111112"}, {"l(ml)r", "000001", "222221"}, {"r(r)xml", "1111110", "1111112"}, {"r(r).ml", "1111000", "1111112"}, {"l(l).mr", "0000001", "2222111"},
		{"r(e)ml", "112110", "112112"}, {"l(l)m(r)", "00000010", "22222111"},
	})
}

// Brackets and their content in sequences that skip an isolate.
func TestP16_1Isolates(t *testing.T) {
	checkRows(t, []handRow{
		{"ID", "00", "11"}, {"JD", "00", "11"}, {"FD", "00", "11"}, {"IlD", "020", "121"}, {"IrD", "030", "131"}, {"JlD", "020", "141"}, {"JrD", "010", "131"}, {"FlD", "020", "121"}, {"FrD", "010", "131"}, {"FeD", "020", "121"}, {"FaD", "010", "131"}, {"JeD", "020", "141"}, {"IeD", "020", "121"}, {"InD", "040", "141"},
		{"lJlDr", "00201", "21411"}, {"rIrDr", "11311", "11311"}, {"rIrDl", "10300", "11312"}, {"lIrDl", "00300", "22322"}, {"lFrlDl", "001200", "223422"}, {"lFlrDl", "002300", "222322"}, {"FIrDlD", "025220", "125221"}, {"FJlDrD", "014110", "136331"}, {"F.IrDD", "022520", "122521"},
		{"lJr", "001", "213"}, {"Jl", "02", "14"}, {"Fr", "01", "13"}, {"Fl", "02", "12"}, {"rIl", "102", "112"}, {"rIr", "103", "113"}, {"lJrb", "0010", "2131"}, {"rJIrb", "10130", "11351"}, {"F.", "02", "12"}, {"FIr", "025", "125"},
		{"D", "0", "1"}, {"rDr", "111", "111"}, {"lDl", "000", "222"}, {"rDl", "100", "112"}, {"DIrDDr", "003001", "113111"}, {"rIDDr", "11111", "11111"},
		{"l(IrD)", "000300", "211311"}, {"r(IlD)r", "1112111", "1112111"}, {"r(JlrD)", "1002100", "1114311"}, {"r(Ir)Dr", "1113211", "1113211"}, {"l(JlDr)l", "00020100", "21141112"}, {"r(IlDr)l", "11121110", "11121112"}, {"l[Ir(lDl]r", "0003220001", "2223222221"}, {"r(JrDr)ml", "111111110", "111311112"},
		{"reIDce", "121112", "121112"}, {"raIlDe", "111212", "111212"}, {"lIrDe", "00300", "22322"}, {"eIrDte", "003000", "213122"},
	})
}

func TestP16_1Embeddings(t *testing.T) {
	checkRows(t, []handRow{
		{"RP", "00", "11"}, {"LlP", "022", "122"}, {"RlP", "022", "144"}, {"RrP", "011", "133"}, {"LrP", "033", "133"}, {"lRlrPl", "002110", "224332"}, {"lLrPl", "00330", "22332"}, {"RePl", "0220", "1442"}, {"LePr", "0221", "1221"}, {"LnP", "044", "144"}, {"R.P", "011", "133"}, {"L.P", "022", "122"}, {"rR.P", "1111", "1133"}, {"lL.Pl", "00220", "22222"},
		{"Ye.Pl", "01110", "13332"}, {"lYe.Pl", "001110", "223332"}, {"XrPr", "0221", "1221"}, {"Xr.nP", "02222", "12222"}, {"Y(l)P", "01111", "13333"}, {"Yl", "01", "13"}, {"YlmP", "0111", "1333"}, {"YlIlDl", "011211", "133433"}, {"XrJrDr", "022322", "122322"}, {"YlFrlDlP", "01134111", "13356333"}, {"YgP", "011", "133"}, {"Ylb", "010", "131"},
		{"P", "0", "1"}, {"lPl", "000", "222"}, {"rPl", "110", "112"}, {"Pr", "01", "11"}, {"RPPr", "0001", "1111"}, {"RrPPr", "01111", "13331"}, {"RPrPPl", "001110", "111112"},
		{"RLlPrP", "002211", "114433"}, {"RrLlPrPr", "01122111", "13344331"}, {"LRrPlPr", "0033221", "1133221"}, {"RYlPlP", "003322", "115544"}, {"RIlDP", "01211", "13433"}, {"RrIlPDP", "0112211", "1334433"},
		{"RrP(r)", "011111", "133111"}, {"LlP(l)", "022000", "122222"}, {"RrP(r)m.l", "011111100", "133111112"}, {"RrPw(ew)", "01111211", "13311211"}, {"RrP(l)", "011000", "133121"}, {"RrPe", "0112", "1332"}, {"RrPl", "0110", "1332"}, {"RrPmr", "01111", "13311"}, {"l.RrP", "00011", "21133"}, {"r.RrP", "11111", "11133"},
		{"Rl(PYIlDPRl)lP", "02111121112122", "14333343334344"}, {"Ra(PYIlDPReP", "011111211122", "133333433344"}, {"R(PYlP)P", "01111100", "13333311"}, {"R(PRlP)mP", "011122000", "133344111"},
		{"IRrPD", "00330", "11331"}, {"IRrDl", "00300", "11312"}, {"RIPrDr", "011311", "133533"}, {"Rb", "00", "11"}, {"rIRrDl", "100300", "111312"},
	})
}

// ladder returns n code points that each lead one level up from the base, by the ways that lead to an odd and to an even one.
func ladder(base, n int, odd, even rune) []rune {
	var t []rune
	for level := base + 1; level <= base+n; level++ {
		t = append(t, []rune{even, odd}[level%2])
	}
	return t
}

// levelAt returns the level at a position of the text.
func levelAt(t *testing.T, text []rune, dir, i int) int {
	t.Helper()
	levels, _, e := Of(text, dir)
	if e != api.OK || len(levels) != len(text) {
		t.Fatalf("Of(%X, %d): %d levels and %v", text, dir, len(levels), e)
	}
	return levels[i]
}

// More embeddings and isolates in one another than there are levels.
func TestP16_1Depth(t *testing.T) {
	all := letters()
	for base := range 2 {
		for _, way := range []string{"RL", "JI", "RI", "JL"} {
			for n := 110; n <= 140; n++ {
				up := ladder(base, n, all[rune(way[0])], all[rune(way[1])])
				for letter, aboveOf := range map[rune][2]int{'l': {0, 1}, 'r': {1, 0}} {
					level := min(base+n, api.MaxLevel)
					if got := levelAt(t, append(slices.Clone(up), all[letter]), api.DirLeft+base, n); got != level+aboveOf[level%2] {
						t.Errorf("%c below %d times %s at base %d: level %d", letter, n, way, base, got)
					}
				}
				holds(t, slices.Concat(up, spell("lre.w")))
				holds(t, slices.Concat(up, spell("lrPePPnDaPDDlPPbDr")[:16]))
				holds(t, slices.Concat(spell("r(l"), up, spell("(l"), slices.Repeat(spell("Pr"), 20), slices.Repeat(spell("lDe"), 30), spell(")mr")))
			}
		}
	}
	// Overrides, and what is beyond the last level ends first.
	deep := ladder(0, 125, all['Y'], all['X'])
	for _, c := range []struct {
		pattern string
		want    []int
	}{
		{"lr", []int{125, 125}}, {"XlP", []int{0, 125, 125}}, {"XlPrPl", []int{0, 125, 125, 125, 125, 124}}, {"IlDl", []int{125, 125, 125, 125}}, {"JXPPPPDl", slices.Repeat([]int{125}, 8)}, {"PJl", []int{0, 124, 126}}, {"PFlDr", []int{0, 124, 124, 124, 124}}, {"PFrDr", []int{0, 124, 125, 124, 124}}, {"PPIlD", []int{0, 0, 123, 124, 123}},
	} {
		text := append(slices.Clone(deep), spell(c.pattern)...)
		if got, _, e := Of(text, api.DirLeft); e != api.OK || !slices.Equal(got[125:], c.want) {
			t.Errorf("%s below 125 levels: %v and %v", c.pattern, got, e)
		}
		holds(t, text)
	}
}

// everyLetter returns all code points of the tests' patterns.
func everyLetter() []rune { return spell("laresntcmxbkqgw.LXRYPIJFD()[]{}<>ou") }

// onePara checks Of of the text if it is one paragraph, and that it is refused if not.
func onePara(t *testing.T, text []rune) {
	t.Helper()
	if len(parasByChapter(text)) < 2 {
		holds(t, text)
		return
	}
	for _, dir := range allDirs() {
		refuses(t, text, dir, api.ErrKind)
	}
}

func TestP16_1ShortTexts(t *testing.T) {
	check := func(text []rune) { onePara(t, text) }
	lists(3, everyLetter(), check)
	lists(4, spell("lraen.mxwRPJD()"), check)
	lists(5, spell("lren(]"), check)
	lists(6, spell("r()J"), check)
	lists(6, spell("lIFD"), check)
	lists(6, spell("lYPr"), check)
	lists(6, spell("aecs"), check)
}

func TestP16_1LongTexts(t *testing.T) {
	next := stream()
	kinds := [][]rune{everyLetter(), spell("lraestncmxgw.LXRYPIJFD()[]"), spell("lrlren.w()[]{}<u"), spell("lrIJFDIJFD()()mme"), spell("lrRLYXPPPPe.wx"), spell("raetcsnm.w"), spell("lr.()[]IDm"), spell("rYPJDIDL(m)x"), spell("lle1wc"), {'l', 0x2C6, 0xFF, 0x627, 0x64B, 0x6F0, 0x5BE, 0x20AC, 0x2B, 0x200F, 0x200E, 0x61C, 0xFFFC, 0x10FFFF, 0x1D7CE, 0xE0001}}
	for _, kind := range kinds {
		for _, size := range []int{8, 30, 100} {
			for range 250 {
				text := some(next, next(size), kind)
				holds(t, slices.DeleteFunc(text, func(r rune) bool { return classOf(r) == api.BidiB }))
			}
			for range 50 {
				onePara(t, some(next, next(size), kind))
			}
		}
	}
}

// Embeddings that join others of their level, with brackets and isolates from one to the next.
func TestP16_1Fragments(t *testing.T) {
	next := stream()
	fragments := []string{"RrP", "LlP", "RlP", "LrP", "YIlDP", "XJrDP", "Rl(P", "Rl)P", "Rr[P", "R]lP", "Lr(P", "L)rP", "Ra(P", "ReP", "RmP", "R", "L", "Y", "X", "P", "P", "P", "I", "J", "F", "D", "D", "(", ")", "(", ")", "[", "]", "l", "r", "a", "e", "n", "m", ".", "w", "t", "c", "x", "(r)", "(l)", "(e)", "r(l", "l(r"}
	for range 4000 {
		var pattern strings.Builder
		for _, fragment := range some(next, next(14), fragments) {
			pattern.WriteString(fragment)
		}
		holds(t, spell(pattern.String()))
	}
}

// A separator at the end is part of the paragraph; anywhere else it makes two of it.
func TestP16_1Separators(t *testing.T) {
	for _, end := range []string{"b", "k", "q", "kb"} {
		for _, pattern := range []string{"", "l", "r", "lwr", "rJl", "rIrD", "RrY", "Ye", "r(l", "rg"} {
			text := spell(pattern + end)
			holds(t, text)
			holds(t, append(text, 'a')[:len(text)])
			for _, dir := range allDirs() {
				refuses(t, append(slices.Clone(text), 'a'), dir, api.ErrKind)
				refuses(t, append(spell(end), text...), dir, api.ErrKind)
			}
		}
	}
}

// refuses checks that Of returns the error, and nothing else.
func refuses(t *testing.T, text []rune, dir int, want api.Errno) {
	t.Helper()
	if levels, base, e := Of(text, dir); len(levels) != 0 || base != 0 || e != want {
		t.Errorf("Of of %d code points, %X .., in the direction %d: %d levels, base %d, %v and not %v", len(text), text[:min(len(text), 8)], dir, len(levels), base, e, want)
	}
}

func TestP16_1Errors(t *testing.T) {
	for _, dir := range noDirs() {
		refuses(t, nil, dir, api.ErrArg)
		refuses(t, []rune{}, dir, api.ErrArg)
		refuses(t, spell("rl"), dir, api.ErrArg)
	}
	for _, wrong := range noRunes() {
		for _, text := range [][]rune{{wrong}, {wrong, 'a'}, {'a', wrong}, {'a', wrong, 0x5D0}, {wrong, wrong}, {0x5D0, 0xA, wrong}} {
			for _, dir := range append(allDirs(), noDirs()...) {
				refuses(t, text, dir, api.ErrText)
			}
		}
	}
	// The nearest code points to those are valid ones.
	for _, right := range []rune{0, 0xD7FF, 0xE000, 0x10FFFF} {
		holds(t, []rune{right})
		holds(t, []rune{right, 0x5D0, right})
	}
	for _, pattern := range []string{"bl", "lbl", "bb", "kk", "bk", "kbl", "kbb", "kkb", "qb", "lbrbl", "IbD", "rqrq"} {
		for _, dir := range allDirs() {
			refuses(t, spell(pattern), dir, api.ErrKind)
		}
	}
	for _, dir := range allDirs() {
		for _, more := range []int{1, 2, 904, most - api.MaxRunes} {
			refuses(t, slices.Repeat([]rune{'a'}, api.MaxRunes+more), dir, api.ErrMany)
			refuses(t, append(slices.Repeat([]rune{0x5D0}, api.MaxRunes+more-1), 0xA), dir, api.ErrMany)
		}
	}
}

// Of several errors the first one is told.
func TestP16_1ErrorOrder(t *testing.T) {
	for code := 1; code < 16; code++ {
		text, dir, want := []rune("ab"), api.DirRight, api.OK
		if code&1 != 0 {
			text, want = slices.Repeat([]rune{'a'}, api.MaxRunes+1), api.ErrMany
		}
		if code&2 != 0 {
			text[0], want = 0xA, api.ErrKind
		}
		if code&4 != 0 {
			dir, want = 3, api.ErrArg
		}
		if code&8 != 0 {
			text[len(text)-1], want = 0xDFFF, api.ErrText
		}
		refuses(t, text, dir, want)
	}
}

func TestP16_1NoText(t *testing.T) {
	for _, text := range [][]rune{nil, {}} {
		for _, dir := range allDirs() {
			want := map[bool]int{true: 1, false: 0}[dir == api.DirRight]
			if levels, base, e := Of(text, dir); len(levels) != 0 || base != want || e != api.OK {
				t.Errorf("Of of nothing in the direction %d: %v, %d, %v", dir, levels, base, e)
			}
		}
	}
}

func TestP16_2(t *testing.T) {
	check := func(text []rune) {
		t.Helper()
		for _, dir := range append(allDirs(), noDirs()...) {
			if got, want := Base(text, dir), baseByChapter(text, dir); got != want {
				t.Fatalf("Base(%X, %d) = %d", text, dir, got)
			}
		}
	}
	check(nil)
	for pattern, auto := range map[string]int{
		"": 0, "l": 0, "r": 1, "a": 1, "e": 0, "n": 0, "m": 0, ".": 0, "w": 0, "x": 0, "b": 0, "rl": 1, "lr": 0, ".ar": 1, "ewnl": 0, "e.nr": 1, "m(r": 1, "g.wxtscr": 1,
		"br": 0, "rb": 1, "lbr": 0, ".br": 0, "kbr": 0, "kr": 0, "qa": 0, "rbl": 1, ".rbl": 1, "wbbr": 0,
		"Rr": 1, "Rl": 0, "Yl": 0, "LPr": 1, "Xa": 1, "RYPe": 0,
		"IrDl": 0, "JlDr": 1, "FlDa": 1, "Ir": 0, "Jr": 0, "IrDDr": 1, "Dr": 1, "DIrDr": 1, "IIrDr": 0, "IIrDrDl": 0, "IIrDrDr": 1, "IlbrDr": 0, "IDr": 1, "FFFDDDr": 1, "FFFDDr": 0,
	} {
		text := spell(pattern)
		for _, dir := range append(noDirs(), api.DirAuto) {
			if got := Base(text, dir); got != auto {
				t.Errorf("Base(%s, %d) = %d", pattern, dir, got)
			}
		}
		if Base(text, api.DirLeft) != 0 || Base(text, api.DirRight) != 1 {
			t.Errorf("%s has the levels %d and %d by its direction", pattern, Base(text, api.DirLeft), Base(text, api.DirRight))
		}
		check(text)
	}
	for _, wrong := range noRunes() {
		for _, text := range [][]rune{{wrong}, {wrong, 0x5D0}, {0x5D0, wrong}, {' ', wrong, 0x5D0}, {0x2066, wrong, 0x2069, 0x5D0}} {
			check(text)
		}
	}
	next := stream()
	lists(3, everyLetter(), check)
	for range 2000 {
		check(some(next, next(40), append(everyLetter(), noRunes()...)))
		check(some(next, next(40), append(spell("wwwlr.bIJFDIJFD"), noRunes()...)))
	}
	// Longer than a paragraph may be.
	long := append(slices.Repeat([]rune{' '}, most-1), 0x5D0)
	if Base(long, api.DirAuto) != 1 || Base(long, api.DirLeft) != 0 {
		t.Errorf("a long text: %d and %d", Base(long, api.DirAuto), Base(long, api.DirLeft))
	}
}

// numbered returns n levels, each another one: negative ones, too, and as great as they get.
func numbered(n int) []int {
	levels := make([]int, n)
	for i := range levels {
		levels[i] = []int{7 + i, -7 - i, math.MaxInt - i, math.MinInt + i}[i%4]
	}
	return levels
}

// anyBases are levels of a paragraph, as Line takes them.
func anyBases() []int { return []int{0, 1, 2, -1, 126, math.MaxInt, math.MinInt} }

func TestP16_3Rows(t *testing.T) {
	for _, c := range []struct {
		pattern  string
		from, to int
		reset    string // of the range: x is set to the paragraph level
	}{
		{"", 0, 0, ""}, {"l", 0, 1, "-"}, {"r", 0, 1, "-"}, {"e", 0, 1, "-"}, {"m", 0, 1, "-"}, {".", 0, 1, "-"}, {"(", 0, 1, "-"}, {"t", 0, 1, "-"}, {"s", 0, 1, "-"}, {"c", 0, 1, "-"}, {"n", 0, 1, "-"}, {"a", 0, 1, "-"},
		{"b", 0, 1, "x"}, {"k", 0, 1, "x"}, {"q", 0, 1, "x"}, {"g", 0, 1, "x"}, {"w", 0, 1, "x"}, {"x", 0, 1, "x"}, {"I", 0, 1, "x"}, {"J", 0, 1, "x"}, {"F", 0, 1, "x"}, {"D", 0, 1, "x"}, {"L", 0, 1, "x"}, {"X", 0, 1, "x"}, {"R", 0, 1, "x"}, {"Y", 0, 1, "x"}, {"P", 0, 1, "x"},
		{"lw", 0, 2, "-x"}, {"wl", 0, 2, "--"}, {"bl", 0, 2, "x-"}, {"gl", 0, 2, "x-"}, {"lb", 0, 2, "-x"}, {"lwb", 0, 3, "-xx"}, {"lwg", 0, 3, "-xx"}, {"lwgl", 0, 4, "-xx-"}, {"lwbl", 0, 4, "-xx-"}, {"lgwl", 0, 4, "-x--"}, {"lbwl", 0, 4, "-x--"}, {"lwwl", 0, 4, "----"}, {"lwwe", 0, 4, "----"}, {"w.w.w", 0, 5, "----x"},
		{"lIDwb", 0, 5, "-xxxx"}, {"lLXRYPxIJFDwgl", 0, 14, "-xxxxxxxxxxxx-"}, {"lLXRYPxIJFDwbl", 0, 14, "-xxxxxxxxxxxx-"}, {"lLXRYPxIJFDw", 0, 12, "-xxxxxxxxxxx"}, {"wDFJIxPYRXLl", 0, 12, "------------"}, {"lxl", 0, 3, "---"}, {"xw.xwg.wx", 0, 9, "---xxx-xx"}, {"wxwxg", 0, 5, "xxxxx"}, {"wmw", 0, 3, "--x"}, {"w(w)g", 0, 5, "----x"}, {"ggbkq", 0, 5, "xxxxx"},
		{"lwwl", 0, 3, "-xx"}, {"lwwl", 0, 2, "-x"}, {"lwwl", 1, 3, "xx"}, {"lwwl", 1, 4, "---"}, {"lwwl", 2, 4, "--"}, {"lwwg", 0, 2, "-x"}, {"lwwg", 2, 3, "x"}, {"lwwg", 1, 4, "xxx"}, {"lwlwl", 1, 4, "--x"}, {"lwlwl", 3, 5, "--"}, {"lwlwl", 3, 4, "x"}, {"gwl", 1, 3, "--"}, {"gwl", 0, 2, "xx"}, {"lwgwl", 1, 3, "xx"}, {"lwgwl", 2, 5, "x--"}, {"lwgwl", 3, 5, "--"}, {"lIJFDl", 2, 4, "xx"}, {"lIJFDl", 2, 6, "----"}, {"lxPg", 1, 2, "x"},
		{"lw", 2, 2, ""}, {"lw", 1, 1, ""}, {"lw", 0, 0, ""}, {"gg", 1, 1, ""}, {"lbrbw", 0, 5, "-x-xx"}, {"lwbwrwqwe", 0, 9, "-xx--xx--"},
	} {
		for _, base := range anyBases() {
			text := spell(c.pattern)
			levels := numbered(len(text))
			want := slices.Clone(levels[c.from:c.to])
			for i := range c.reset {
				if c.reset[i] == 'x' {
					want[i] = base
				}
			}
			if got := Line(text, levels, base, c.from, c.to); !slices.Equal(got, want) {
				t.Errorf("Line(%s, %v, %d, %d, %d) = %v, not %v", c.pattern, levels, base, c.from, c.to, got, want)
			}
		}
	}
}

// everyRange checks Line of each range of the text, also of those that it hasn't.
func everyRange(t *testing.T, text []rune, base int) {
	t.Helper()
	levels := numbered(len(text))
	for from := -1; from <= len(text)+1; from++ {
		for to := -1; to <= len(text)+1; to++ {
			var want []int
			if from >= 0 && from <= to && to <= len(text) {
				want = lineByChapter(text, levels, base, from, to)
			}
			if got := Line(text, levels, base, from, to); !slices.Equal(got, want) {
				t.Fatalf("Line(%X, %v, %d, %d, %d) = %v, not %v", text, levels, base, from, to, got, want)
			}
		}
	}
}

func TestP16_3Ranges(t *testing.T) {
	next := stream()
	check := func(text []rune) { everyRange(t, text, anyBases()[next(len(anyBases()))]) }
	lists(2, everyLetter(), check)
	lists(5, spell("lwgxD"), check)
	lists(4, spell("rwbPI.F"), check)
	for _, kind := range [][]rune{everyLetter(), append(everyLetter(), noRunes()...), spell("wxLRPIJFDgb"), spell("wwwwwxIDDPlgb")} {
		for range 400 {
			check(some(next, next(25), kind))
		}
	}
}

func TestP16_3NoRange(t *testing.T) {
	text := spell("lwgrw")
	far := []int{math.MinInt, -1 << 32, -6, -5, -1, 6, 7, 10, 1 << 32, 1<<32 + 2, math.MaxInt}
	for _, wrong := range far {
		for _, other := range append(far, 0, 1, 4, 5) {
			for _, c := range [][2]int{{wrong, other}, {other, wrong}} {
				if got := Line(text, numbered(5), 0, c[0], c[1]); len(got) != 0 {
					t.Errorf("Line from %d to %d: %v", c[0], c[1], got)
				}
			}
		}
	}
	for size := range 12 {
		for from := range 8 {
			for to := range 8 {
				if got := Line(text, numbered(size), 0, from, to); size != 5 && len(got) != 0 {
					t.Errorf("Line with %d levels from %d to %d: %v", size, from, to, got)
				}
			}
		}
	}
	for _, none := range [][]rune{nil, {}} {
		if got := Line(none, nil, 1, 0, 0); len(got) != 0 {
			t.Errorf("Line of nothing: %v", got)
		}
		if got := Line(none, []int{1}, 1, 0, 0); len(got) != 0 {
			t.Errorf("Line of nothing with a level: %v", got)
		}
	}
	if got := Line(text, nil, 1, 0, 0); len(got) != 0 {
		t.Errorf("Line without levels: %v", got)
	}
}

// sameRuns checks Runs against the chapter.
func sameRuns(t *testing.T, levels []int) {
	t.Helper()
	if got, want := Runs(levels), runsByChapter(levels); !slices.Equal(got, want) {
		t.Fatalf("Runs(%v) = %v, not %v", levels, got, want)
	}
}

func TestP16_4Runs(t *testing.T) {
	for _, c := range []struct {
		levels []int
		want   []api.Span
	}{
		{nil, nil}, {[]int{}, nil}, {[]int{0}, []api.Span{{From: 0, To: 1, Val: 0}}}, {[]int{-1}, []api.Span{{From: 0, To: 1, Val: -1}}}, {[]int{5, 5, 5}, []api.Span{{From: 0, To: 3, Val: 5}}}, {[]int{1, 2}, []api.Span{{From: 0, To: 1, Val: 1}, {From: 1, To: 2, Val: 2}}},
		{[]int{0, 0, 1, 0}, []api.Span{{From: 0, To: 2, Val: 0}, {From: 2, To: 3, Val: 1}, {From: 3, To: 4, Val: 0}}}, {[]int{1, -1, -1, 1}, []api.Span{{From: 0, To: 1, Val: 1}, {From: 1, To: 3, Val: -1}, {From: 3, To: 4, Val: 1}}},
		{[]int{math.MinInt, math.MinInt, math.MaxInt}, []api.Span{{From: 0, To: 2, Val: math.MinInt}, {From: 2, To: 3, Val: math.MaxInt}}}, {[]int{0, 1 << 32, 1}, []api.Span{{From: 0, To: 1, Val: 0}, {From: 1, To: 2, Val: 1 << 32}, {From: 2, To: 3, Val: 1}}},
	} {
		if got := Runs(c.levels); !slices.Equal(got, c.want) {
			t.Errorf("Runs(%v) = %v", c.levels, got)
		}
	}
	lists(7, []int{0, 1, -1}, func(levels []int) { sameRuns(t, levels) })
	lists(4, []int{0, 1, 2, 3, 256, 1 << 32, math.MaxInt, math.MinInt}, func(levels []int) { sameRuns(t, levels) })
	next := stream()
	for range 1000 {
		sameRuns(t, some(next, next(80), []int{0, 1, 2, 3, 124, 125, 126, -1, -2, 1 << 40}))
	}
}

func TestP16_4Window(t *testing.T) {
	for _, c := range []struct {
		pattern string
		cuts    []api.Cut // of the positions from 0 on, the last of which is n
	}{
		{"", []api.Cut{{}}}, {"l", []api.Cut{{From: 0, To: 1}, {From: 0, To: 1}}}, {"b", []api.Cut{{From: 0, To: 1}, {From: 0, To: 1}}}, {"lb", []api.Cut{{From: 0, To: 2}, {From: 0, To: 2}, {From: 0, To: 2}}}, {"bl", []api.Cut{{From: 0, To: 1}, {From: 1, To: 2}, {From: 1, To: 2}}},
		{"bb", []api.Cut{{From: 0, To: 1}, {From: 1, To: 2}, {From: 1, To: 2}}}, {"kb", []api.Cut{{From: 0, To: 2}, {From: 0, To: 2}, {From: 0, To: 2}}}, {"bk", []api.Cut{{From: 0, To: 1}, {From: 1, To: 2}, {From: 1, To: 2}}}, {"kkb", []api.Cut{{From: 0, To: 1}, {From: 1, To: 3}, {From: 1, To: 3}, {From: 1, To: 3}}},
		{"lkbl", []api.Cut{{From: 0, To: 3}, {From: 0, To: 3}, {From: 0, To: 3}, {From: 3, To: 4}, {From: 3, To: 4}}}, {"lqrg", []api.Cut{{From: 0, To: 2}, {From: 0, To: 2}, {From: 2, To: 4}, {From: 2, To: 4}, {From: 2, To: 4}}},
	} {
		text := spell(c.pattern)
		for at, want := range c.cuts {
			if got := Window(text, at); got != want {
				t.Errorf("Window(%s, %d) = %v", c.pattern, at, got)
			}
		}
		for _, at := range []int{math.MinInt, -1 << 32, -1, len(text) + 1, len(text) + 2, 1 << 32, math.MaxInt} {
			if got := Window(text, at); got != (api.Cut{}) {
				t.Errorf("Window(%s, %d) = %v", c.pattern, at, got)
			}
		}
	}
	check := func(text []rune) {
		for at := -2; at <= len(text)+2; at++ {
			if got, want := Window(text, at), windowByChapter(text, at); got != want {
				t.Fatalf("Window(%X, %d) = %v, not %v", text, at, got, want)
			}
		}
	}
	next := stream()
	check(nil)
	lists(2, everyLetter(), check)
	lists(6, spell("lbkq"), check)
	for range 500 {
		check(some(next, next(40), spell("lrbkgIJFDq")))
		check(some(next, next(40), append(everyLetter(), noRunes()...)))
	}
}

// P16.5 is held to wherever a test calls holds; here are texts to which its latter half applies.
func TestP16_5(t *testing.T) {
	next := stream()
	plain := spell("lestcmxbgw.()[]{}<>ou")
	check := func(text []rune) {
		t.Helper()
		text = slices.DeleteFunc(slices.Clone(text), func(r rune) bool { return classOf(r) == api.BidiB })
		for _, end := range []string{"", "b", "kb", "q"} {
			whole := append(slices.Clone(text), spell(end)...)
			for _, dir := range []int{api.DirAuto, api.DirLeft} {
				if got, base, e := Of(whole, dir); !slices.Equal(got, make([]int, len(whole))) || base != 0 || e != api.OK {
					t.Fatalf("Of(%X, %d) = %v, %d, %v", whole, dir, got, base, e)
				}
			}
		}
	}
	lists(3, plain, check)
	for range 500 {
		check(some(next, next(200), plain))
	}
	for range 300 {
		text := some(next, next(300), spell("lraenRLXYIJFPD.("))
		for _, dir := range allDirs() {
			levels, base, _ := Of(text, dir)
			sound(t, text, dir, levels, base)
		}
	}
}

// sameAs checks that DirAuto of a text is what the direction gives, and the paragraph level.
func sameAs(t *testing.T, text []rune, dir int) {
	t.Helper()
	auto, base, e := Of(text, api.DirAuto)
	levels, level, other := Of(text, dir)
	if !slices.Equal(auto, levels) || base != level || level != dir-api.DirLeft || e != api.OK || other != api.OK {
		t.Fatalf("%X: %v, %d, %v by itself and %v, %d, %v in the direction %d", text, auto, base, e, levels, level, other, dir)
	}
}

func TestP16_6Inserted(t *testing.T) {
	check := func(text []rune) {
		if len(parasByChapter(text)) > 1 {
			return
		}
		for _, code := range []rune{'a', 'Z', 0x3B1, 0x4E00, 0x10FFFF} {
			sameAs(t, append([]rune{code}, text...), api.DirLeft)
		}
		for _, code := range []rune{0x5D0, 0x5EA, 0x200F} {
			if classOf(code) == api.BidiR {
				sameAs(t, append([]rune{code}, text...), api.DirRight)
			}
		}
	}
	lists(2, everyLetter(), check)
	next := stream()
	for range 500 {
		check(some(next, next(60), everyLetter()))
		check(some(next, next(60), spell("lraenwRYPIJFD.(")))
	}
}

func TestP16_6Line(t *testing.T) {
	next := stream()
	check := func(text []rune) {
		if len(parasByChapter(text)) > 1 {
			return
		}
		for _, dir := range allDirs() {
			levels, base, _ := Of(text, dir)
			line := Line(text, levels, base, 0, len(text))
			if len(line) != len(text) {
				t.Fatalf("%X: a line of %d levels", text, len(line))
			}
			for i, r := range text {
				class := classOf(r)
				named := among(class, api.BidiB, api.BidiS, api.BidiWS, api.BidiPDI) || isolates(class) || removes(class)
				if line[i] != levels[i] && (!named || line[i] != base) {
					t.Fatalf("%X in the direction %d: %v, and as a line %v", text, dir, levels, line)
				}
			}
		}
	}
	lists(3, everyLetter(), check)
	for range 1000 {
		check(some(next, next(60), everyLetter()))
		check(append(some(next, next(60), spell("lraenwRYPIJFD.(xg")), 0xA))
	}
}

func TestR5Arguments(t *testing.T) {
	next := stream()
	for range 300 {
		text := some(next, next(30), everyLetter())
		room := append(slices.Clone(text), 'a', 0x5D0, ' ', 0xA)
		levels := append(numbered(len(text)), 7, 8, 9)
		given, numbers := slices.Clone(room), slices.Clone(levels)
		for _, dir := range append(allDirs(), 3) {
			Of(given[:len(text)], dir)
			Base(given[:len(text)], dir)
		}
		for from := range len(text) + 1 {
			Line(given[:len(text)], numbers[:len(text)], 1, from, len(text))
			Line(given[:len(text)], numbers[:len(text)], 0, 0, from)
			Window(given[:len(text)], from)
		}
		Runs(numbers[:len(text)])
		if !slices.Equal(given, room) || !slices.Equal(numbers, levels) {
			t.Fatalf("%X and %v became %X and %v", room, levels, given, numbers)
		}
	}
}

func TestR5Results(t *testing.T) {
	for _, pattern := range []string{"l", "lr", "lwrw", "rJlDeb", "YlPw", "wwww", "llll"} {
		text := spell(pattern)
		n := len(text)
		levels := numbered(n)
		calls := []func(text []rune, levels []int) []int{
			func(text []rune, levels []int) []int { all, _, _ := Of(text, api.DirAuto); return all },
			func(text []rune, levels []int) []int { return Line(text, levels, 3, 0, n) },
			func(text []rune, levels []int) []int { return Line(text, levels, 3, 0, n-1) },
			func(text []rune, levels []int) []int { return Line(text, levels, 3, 1, n) },
			func(text []rune, levels []int) []int {
				var flat []int
				for _, run := range Runs(levels) {
					flat = append(flat, run.From, run.To, run.Val)
				}
				return flat
			},
		}
		for k, call := range calls {
			givenText, givenLevels := append(slices.Clone(text), 'z')[:n], append(slices.Clone(levels), 77)[:n]
			first, again := call(givenText, givenLevels), call(givenText, givenLevels)
			want := slices.Clone(first)
			spoil(givenText, 'q')
			spoil(givenLevels, 99)
			if !slices.Equal(first, want) {
				t.Errorf("%s: the result %d shares memory with an argument", pattern, k)
			}
			spoil(first, 98)
			if !slices.Equal(again, want) {
				t.Errorf("%s: the results of two calls of %d share memory", pattern, k)
			}
			if slices.Contains(givenLevels[:cap(givenLevels)], 98) {
				t.Errorf("%s: an argument shares memory with the result %d", pattern, k)
			}
		}
	}
	first, again := Runs([]int{1, 2, 2}), Runs([]int{1, 2, 2})
	spoil(first, api.Span{From: 9, To: 9, Val: 9})
	if !slices.Equal(again, runsByChapter([]int{1, 2, 2})) {
		t.Errorf("the runs of two calls share memory: %v", again)
	}
}

// No call hangs on those before it.
func TestR4Calls(t *testing.T) {
	for range 3 {
		checkRows(t, []handRow{{"Jl", "02", "14"}, {"l", "0", "2"}, {"Yl", "01", "13"}, {"r(r)ml", "111110", "111112"}, {"", "", ""}, {"e", "0", "2"}})
		refuses(t, spell("lbl"), api.DirAuto, api.ErrKind)
		refuses(t, spell("l"), -1, api.ErrArg)
		if got := Line(spell("lw"), []int{2, 2}, 1, 0, 2); !slices.Equal(got, []int{2, 1}) {
			t.Error(got)
		}
		if got := Window(spell("lbl"), 2); got != (api.Cut{From: 2, To: 3}) {
			t.Error(got)
		}
	}
}

// A paragraph and lists of the greatest length.
func TestR8Long(t *testing.T) {
	all := api.MaxRunes
	for _, pattern := range []string{"l", "r", "w", "m", "I", "J", "D", "R", "P", "(", ")", "()", "ID", "RP", "lr", "rwl", "ec", "Ye", "rJl.D", "r(m)l[", "(J", "<>", "xF"} {
		text := slices.Repeat(spell(pattern), all)[:all]
		holds(t, text)
		holds(t, append(text[:all-1:all-1], 0xA))
		refuses(t, append(text[:all:all], 'a'), api.DirAuto, api.ErrMany)
	}
	next := stream()
	text := slices.DeleteFunc(some(next, 2*all, everyLetter()), func(r rune) bool { return classOf(r) == api.BidiB })
	holds(t, text[:all])
	long := some(next, most, everyLetter())
	levels := numbered(most)
	for _, c := range [][2]int{{0, most}, {1, most - 1}, {most / 2, most}} {
		if got := Line(long, levels, 1, c[0], c[1]); !slices.Equal(got, lineByChapter(long, levels, 1, c[0], c[1])) {
			t.Errorf("Line of a long text from %d to %d", c[0], c[1])
		}
	}
	blank := spell(strings.Repeat("w", most))
	if got := Line(blank, levels, 5, 0, most); !slices.Equal(got, slices.Repeat([]int{5}, most)) {
		t.Error("Line of white space")
	}
	sameRuns(t, levels)
	sameRuns(t, make([]int, most))
	for _, at := range []int{0, 1, most / 2, most - 1, most, most + 1} {
		if got := Window(long, at); got != windowByChapter(long, at) {
			t.Errorf("Window of a long text at %d: %v", at, got)
		}
		if got := Window(blank, at); at <= most && got != (api.Cut{From: 0, To: most}) {
			t.Errorf("Window of white space at %d: %v", at, got)
		}
	}
}

func TestExamples(t *testing.T) {
	for _, c := range []struct {
		text []rune
		dir  int
		want []int
		base int
	}{
		{[]rune("ab"), api.DirLeft, []int{0, 0}, 0}, {[]rune{0x5D0, '1'}, api.DirAuto, []int{1, 2}, 1}, {[]rune{'a', 0x5D0, ' '}, api.DirLeft, []int{0, 1, 0}, 0}, {[]rune{0x5D0, ' '}, api.DirRight, []int{1, 1}, 1}, {[]rune("a "), api.DirRight, []int{2, 1}, 1},
	} {
		if got, base, e := Of(c.text, c.dir); !slices.Equal(got, c.want) || base != c.base || e != api.OK {
			t.Errorf("Of(%X, %d) = %v, %d, %v", c.text, c.dir, got, base, e)
		}
	}
	if got := Line([]rune{'a', 0x5D0, ' '}, []int{0, 1, 0}, 0, 0, 3); !slices.Equal(got, []int{0, 1, 0}) {
		t.Errorf("Line: %v", got)
	}
	if got := Line([]rune("a "), []int{2, 2}, 1, 0, 2); !slices.Equal(got, []int{2, 1}) {
		t.Errorf("Line: %v", got)
	}
}
