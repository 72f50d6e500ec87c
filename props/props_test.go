package props

import (
	"math"
	"slices"
	"strconv"
	"strings"
	"testing"

	"typecase/api"
	"typecase/ranges"
)

const (
	top  = 0x10FFFF
	low  = math.MinInt32
	high = math.MaxInt32
)

// plain are the properties of the chapter's default row, written out.
var plain = api.Prop{Bidi: 1, Cluster: 0, Break: 0, Script: 0, Join: 0, Word: 0, Mirror: 0, Pair: 0, Opens: false}

// line is a line of the chapter's table.
type line struct {
	from, to rune
	prop     api.Prop
}

var (
	bidiNames = map[string]int{
		"L": api.BidiL, "R": api.BidiR, "AL": api.BidiAL, "EN": api.BidiEN, "ES": api.BidiES, "ET": api.BidiET, "AN": api.BidiAN, "CS": api.BidiCS,
		"NSM": api.BidiNSM, "BN": api.BidiBN, "B": api.BidiB, "S": api.BidiS, "WS": api.BidiWS, "ON": api.BidiON, "LRE": api.BidiLRE, "LRO": api.BidiLRO,
		"RLE": api.BidiRLE, "RLO": api.BidiRLO, "PDF": api.BidiPDF, "LRI": api.BidiLRI, "RLI": api.BidiRLI, "FSI": api.BidiFSI, "PDI": api.BidiPDI,
	}
	clusterNames = map[string]int{
		"Any": api.ClAny, "CR": api.ClCR, "LF": api.ClLF, "Control": api.ClControl, "Extend": api.ClExtend, "ZWJ": api.ClZWJ, "Regional": api.ClRegional,
		"Prepend": api.ClPrepend, "Spacing": api.ClSpacing, "L": api.ClL, "V": api.ClV, "T": api.ClT, "LV": api.ClLV, "LVT": api.ClLVT, "Picture": api.ClPicture,
	}
	breakNames = map[string]int{
		"AL": api.BrAL, "BK": api.BrBK, "CR": api.BrCR, "LF": api.BrLF, "SP": api.BrSP, "ZW": api.BrZW, "WJ": api.BrWJ, "GL": api.BrGL, "CM": api.BrCM,
		"ZWJ": api.BrZWJ, "BA": api.BrBA, "BB": api.BrBB, "HY": api.BrHY, "CL": api.BrCL, "CP": api.BrCP, "EX": api.BrEX, "IN": api.BrIN, "NS": api.BrNS,
		"OP": api.BrOP, "QU": api.BrQU, "IS": api.BrIS, "NU": api.BrNU, "PO": api.BrPO, "PR": api.BrPR, "SY": api.BrSY, "ID": api.BrID, "EB": api.BrEB,
		"EM": api.BrEM, "HL": api.BrHL, "RI": api.BrRI, "JL": api.BrJL, "JV": api.BrJV, "JT": api.BrJT, "H2": api.BrH2, "H3": api.BrH3,
	}
	scriptNames = map[string]int{
		"Common": api.ScCommon, "Inherited": api.ScInherited, "Latin": api.ScLatin, "Greek": api.ScGreek, "Cyrillic": api.ScCyrillic, "Hebrew": api.ScHebrew,
		"Arabic": api.ScArabic, "Han": api.ScHan, "Kana": api.ScKana, "Hangul": api.ScHangul, "Thai": api.ScThai, "Devanagari": api.ScDevanagari,
	}
	joinNames = map[string]int{
		"None": api.JnNone, "Dual": api.JnDual, "Right": api.JnRight, "Left": api.JnLeft, "Cause": api.JnCause, "Transparent": api.JnTransparent,
	}
	wordNames = map[string]int{
		"Other": api.WdOther, "Letter": api.WdLetter, "Digit": api.WdDigit, "Mid": api.WdMid, "MidNum": api.WdMidNum, "Join": api.WdJoin,
		"Extend": api.WdExtend, "Space": api.WdSpace,
	}
)

// codeOf reads a code point as the chapter's table writes it.
func codeOf(t *testing.T, cell string) rune {
	if cell == "-" {
		return 0
	}
	n, e := strconv.ParseUint(cell, 16, 21)
	if e != nil {
		t.Fatalf("the chapter's table has %q for a code point", cell)
	}
	return rune(n)
}

// classOf reads a class as the chapter's table writes it.
func classOf(t *testing.T, names map[string]int, cell string) int {
	class, known := names[cell]
	if !known {
		t.Fatalf("the chapter's table has %q for a class", cell)
	}
	return class
}

// chapterLines reads the chapter's table.
func chapterLines(t *testing.T) []line {
	var l []line
	for text := range strings.Lines(strings.TrimSpace(chapterTable)) {
		cells := strings.Split(strings.Trim(text, "| \n"), " | ")
		if len(cells) != 10 {
			t.Fatalf("the line %q of the chapter's table has %d cells", text, len(cells))
		}
		pair, opens := strings.CutSuffix(cells[9], " opens")
		l = append(l, line{codeOf(t, cells[0]), codeOf(t, cells[1]), api.Prop{
			Bidi: classOf(t, bidiNames, cells[2]), Cluster: classOf(t, clusterNames, cells[3]), Break: classOf(t, breakNames, cells[4]),
			Script: classOf(t, scriptNames, cells[5]), Join: classOf(t, joinNames, cells[6]), Word: classOf(t, wordNames, cells[7]),
			Mirror: codeOf(t, cells[8]), Pair: codeOf(t, pair), Opens: opens,
		}})
	}
	if len(l) != 260 {
		t.Fatal("the chapter's table has", len(l), "lines")
	}
	return l
}

// chapterProp is the chapter's definition of the properties of r.
func chapterProp(l []line, r rune) api.Prop {
	for _, x := range l {
		if x.from <= r && r <= x.to {
			if x.from == 0xAC00 && (r-0xAC00)%28 == 0 {
				x.prop.Cluster, x.prop.Break = api.ClLV, api.BrH2
			}
			return x.prop
		}
	}
	return plain
}

// notCodes are values that are not code points, each end of their ranges among them.
func notCodes() []rune {
	return []rune{
		low, low + 1, -0x110000, -0x10FFFF, -0xAC00, -0x10000, -100, -0x41, -28, -2, -1,
		0xD800, 0xD801, 0xDB7F, 0xDBFF, 0xDC00, 0xDFFE, 0xDFFF,
		top + 1, top + 2, 0x110041, 0x120000, 0x200041, 1 << 24, 1<<24 + 0x41, high - 1, high,
	}
}

// edges are the values at which the properties may change, and some beside them.
func edges(l []line) []rune {
	codes := append(notCodes(), 0xD7FF, 0xE000, 0xAC1B, 0xAC1C, 0xAC1D, 0xD787, 0xD788, 0xD789, top-1, top)
	for _, x := range l {
		codes = append(codes, x.from-1, x.from, x.to, x.to+1)
	}
	slices.Sort(codes)
	return slices.Compact(codes)
}

func TestP4_1EveryRow(t *testing.T) {
	l := chapterLines(t)
	for i, x := range l {
		for _, r := range []rune{x.from - 1, x.from, (x.from + x.to) / 2, x.to, x.to + 1} {
			if got, want := Of(r), chapterProp(l, r); got != want {
				t.Errorf("row %d: Of(%X) = %v, not %v", i, r, got, want)
			}
		}
	}
}

func TestP4_1EveryCodePoint(t *testing.T) {
	const below = 0x20000
	want := make([]api.Prop, below+top+1+below)
	for i := range want {
		want[i] = plain
	}
	l := chapterLines(t)
	for _, x := range l {
		for r := x.from; r <= x.to; r++ {
			want[below+r] = chapterProp([]line{x}, r)
		}
	}
	for i, w := range want {
		if got := Of(rune(i) - below); got != w {
			t.Fatalf("Of(%X) = %v, not %v", i-below, got, w)
		}
	}
}

func TestP4_1NotCodePoints(t *testing.T) {
	for _, r := range notCodes() {
		if got := Of(r); got != plain {
			t.Errorf("Of(%d) = %v", r, got)
		}
	}
	for r := rune(0xD800); r <= 0xDFFF; r++ {
		if got := Of(r); got != plain {
			t.Errorf("Of(%X) = %v", r, got)
		}
	}
	// A step that is prime to the number of runes, so that values of all kinds come up.
	for r := int64(low); r <= high; r += 99991 {
		if (r < 0 || r > top) && Of(rune(r)) != plain {
			t.Fatalf("Of(%d) = %v", r, Of(rune(r)))
		}
	}
}

func TestP4_1WithoutRow(t *testing.T) {
	for _, r := range []rune{0x250, 0x2FF, 0x530, 0x590, 0x5C8, 0x5CF, 0x5EB, 0x606, 0x6DE, 0x6E5, 0x93B, 0x93D, 0x94E, 0x1000, 0x10FF, 0x1200, 0x1FFF, 0x2015, 0x2017,
		0x2065, 0x206A, 0x2328, 0x232B, 0x25FF, 0x27C0, 0x2FFF, 0x3040, 0xABFF, 0xD7A4, 0xD7FF, 0xE000, 0xF8FF, 0xFF00, 0xFFFB, 0xFFFE, 0xFFFF, 0x10000, 0x1F1E5, 0x1F200,
		0x1FA00, 0x1FFFF, 0x2FFFE, 0x30000, 0xE001F, 0xE0080, 0xE00FF, 0xE01F0, 0xF0000, 0x10FFFE, top} {
		if got := Of(r); got != plain {
			t.Errorf("Of(%X) = %v", r, got)
		}
	}
	l := chapterLines(t)
	for i, x := range l {
		next := rune(top + 1)
		if i+1 < len(l) {
			next = l[i+1].from
		}
		if x.to+1 < next && (Of(x.to+1) != plain || Of(next-1) != plain) {
			t.Errorf("behind row %d: Of(%X) = %v, Of(%X) = %v", i, x.to+1, Of(x.to+1), next-1, Of(next-1))
		}
	}
}

func TestP4_1Syllables(t *testing.T) {
	for _, x := range []struct {
		r              rune
		cluster, lines int
	}{
		{0xABFF, api.ClAny, api.BrAL}, {0xAC00, api.ClLV, api.BrH2}, {0xAC01, api.ClLVT, api.BrH3}, {0xAC1B, api.ClLVT, api.BrH3}, {0xAC1C, api.ClLV, api.BrH2},
		{0xAC1D, api.ClLVT, api.BrH3}, {0xAC37, api.ClLVT, api.BrH3}, {0xAC38, api.ClLV, api.BrH2}, {0xAE00, api.ClLVT, api.BrH3}, {0xD787, api.ClLVT, api.BrH3},
		{0xD788, api.ClLV, api.BrH2}, {0xD789, api.ClLVT, api.BrH3}, {0xD7A3, api.ClLVT, api.BrH3}, {0xD7A4, api.ClAny, api.BrAL},
		// Multiples of 28 behind AC00 that are outside of the row.
		{0xAC00 - 28, api.ClAny, api.BrAL}, {0xAC00 + 399*28, api.ClAny, api.BrAL}, {0x20000, api.ClAny, api.BrID},
	} {
		if got := Of(x.r); got.Cluster != x.cluster || got.Break != x.lines {
			t.Errorf("Of(%X) = %v", x.r, got)
		}
	}
	open := 0
	for r := rune(0xAC00); r <= 0xD7A3; r++ {
		want := api.Prop{Bidi: api.BidiL, Cluster: api.ClLVT, Break: api.BrH3, Script: api.ScHangul, Join: api.JnNone, Word: api.WdLetter}
		if (r-0xAC00)%28 == 0 {
			want.Cluster, want.Break = api.ClLV, api.BrH2
			open++
		}
		if got := Of(r); got != want {
			t.Fatalf("Of(%X) = %v, not %v", r, got, want)
		}
	}
	if open != 399 {
		t.Error("syllables without a trailing consonant:", open)
	}
}

func TestP4_1OfByHand(t *testing.T) {
	for _, x := range []struct {
		r    rune
		want api.Prop
	}{
		{0, api.Prop{Bidi: api.BidiBN, Cluster: api.ClControl, Break: api.BrCM}},
		{'\n', api.Prop{Bidi: api.BidiB, Cluster: api.ClLF, Break: api.BrLF, Word: api.WdSpace}},
		{'\r', api.Prop{Bidi: api.BidiB, Cluster: api.ClCR, Break: api.BrCR, Word: api.WdSpace}},
		{' ', api.Prop{Bidi: api.BidiWS, Break: api.BrSP, Word: api.WdSpace}},
		{'5', api.Prop{Bidi: api.BidiEN, Break: api.BrNU, Word: api.WdDigit}},
		{'-', api.Prop{Bidi: api.BidiES, Break: api.BrHY}},
		{'_', api.Prop{Bidi: api.BidiON, Break: api.BrAL, Word: api.WdJoin}},
		{'<', api.Prop{Bidi: api.BidiON, Break: api.BrAL, Mirror: '>'}},
		{']', api.Prop{Bidi: api.BidiON, Break: api.BrCP, Mirror: '[', Pair: '['}},
		{'{', api.Prop{Bidi: api.BidiON, Break: api.BrOP, Mirror: '}', Pair: '}', Opens: true}},
		{'Q', api.Prop{Bidi: api.BidiL, Script: api.ScLatin, Word: api.WdLetter}},
		{0xAD, api.Prop{Bidi: api.BidiBN, Cluster: api.ClControl, Break: api.BrBA, Join: api.JnTransparent, Word: api.WdExtend}},
		{0x301, api.Prop{Bidi: api.BidiNSM, Cluster: api.ClExtend, Break: api.BrCM, Script: api.ScInherited, Join: api.JnTransparent, Word: api.WdExtend}},
		{0x3B1, api.Prop{Bidi: api.BidiL, Script: api.ScGreek, Word: api.WdLetter}},
		{0x5D0, api.Prop{Bidi: api.BidiR, Break: api.BrHL, Script: api.ScHebrew, Word: api.WdLetter}},
		{0x600, api.Prop{Bidi: api.BidiAN, Cluster: api.ClPrepend, Break: api.BrNU}},
		{0x628, api.Prop{Bidi: api.BidiAL, Script: api.ScArabic, Join: api.JnDual, Word: api.WdLetter}},
		{0x627, api.Prop{Bidi: api.BidiAL, Script: api.ScArabic, Join: api.JnRight, Word: api.WdLetter}},
		{0x640, api.Prop{Bidi: api.BidiAL, Join: api.JnCause, Word: api.WdLetter}},
		{0x903, api.Prop{Bidi: api.BidiL, Cluster: api.ClSpacing, Break: api.BrCM, Script: api.ScDevanagari, Word: api.WdExtend}},
		{0x1100, api.Prop{Bidi: api.BidiL, Cluster: api.ClL, Break: api.BrJL, Script: api.ScHangul, Word: api.WdLetter}},
		{0x1161, api.Prop{Bidi: api.BidiL, Cluster: api.ClV, Break: api.BrJV, Script: api.ScHangul, Word: api.WdLetter}},
		{0x11A8, api.Prop{Bidi: api.BidiL, Cluster: api.ClT, Break: api.BrJT, Script: api.ScHangul, Word: api.WdLetter}},
		{0x200D, api.Prop{Bidi: api.BidiBN, Cluster: api.ClZWJ, Break: api.BrZWJ, Script: api.ScInherited, Join: api.JnCause, Word: api.WdExtend}},
		{0x2067, api.Prop{Bidi: api.BidiRLI, Cluster: api.ClControl, Break: api.BrCM, Word: api.WdExtend}},
		{0x30A2, api.Prop{Bidi: api.BidiL, Break: api.BrID, Script: api.ScKana, Word: api.WdLetter}},
		{0x4E00, api.Prop{Bidi: api.BidiL, Break: api.BrID, Script: api.ScHan}},
		{0x1F1E6, api.Prop{Bidi: api.BidiL, Cluster: api.ClRegional, Break: api.BrRI}},
		{0x1F3FB, api.Prop{Bidi: api.BidiON, Cluster: api.ClExtend, Break: api.BrEM, Word: api.WdExtend}},
		{0x1F600, api.Prop{Bidi: api.BidiON, Cluster: api.ClPicture, Break: api.BrID}},
		{0xE01EF, api.Prop{Bidi: api.BidiNSM, Cluster: api.ClExtend, Break: api.BrCM, Script: api.ScInherited, Join: api.JnTransparent, Word: api.WdExtend}},
	} {
		if got := Of(x.r); got != x.want {
			t.Errorf("Of(%X) = %v, not %v", x.r, got, x.want)
		}
	}
}

func TestP4_1Bidi(t *testing.T) {
	for _, x := range []struct {
		t    []rune
		want []int
	}{
		{nil, nil}, {[]rune{}, nil}, {[]rune{'a'}, []int{api.BidiL}}, {[]rune("a1 "), []int{api.BidiL, api.BidiEN, api.BidiWS}},
		{[]rune{0x5D0, 0x628, '\n', '\t', 0x661}, []int{api.BidiR, api.BidiAL, api.BidiB, api.BidiS, api.BidiAN}},
		{[]rune{'-', '#', ',', 0x301, 0, '('}, []int{api.BidiES, api.BidiET, api.BidiCS, api.BidiNSM, api.BidiBN, api.BidiON}},
		{[]rune{0x202A, 0x202D, 0x202B, 0x202E, 0x202C}, []int{api.BidiLRE, api.BidiLRO, api.BidiRLE, api.BidiRLO, api.BidiPDF}},
		{[]rune{0x2066, 0x2067, 0x2068, 0x2069}, []int{api.BidiLRI, api.BidiRLI, api.BidiFSI, api.BidiPDI}},
		{[]rune{0xAC00, 0xAC01, 0xAC1C, 0x250, 0xF0000}, []int{api.BidiL, api.BidiL, api.BidiL, api.BidiL, api.BidiL}},
		// Values that are not code points.
		{[]rune{-1}, []int{api.BidiL}}, {[]rune{0xD800, 0xDFFF, top + 1, low, high}, []int{api.BidiL, api.BidiL, api.BidiL, api.BidiL, api.BidiL}},
		{[]rune{'1', -1, '1', 0xDC00, 0x5D0, high, ' '}, []int{api.BidiEN, api.BidiL, api.BidiEN, api.BidiL, api.BidiR, api.BidiL, api.BidiWS}},
	} {
		if got := Bidi(x.t); !slices.Equal(got, x.want) {
			t.Errorf("Bidi(%x) = %d, not %d", x.t, got, x.want)
		}
	}
}

func TestP4_1BidiOfAllRows(t *testing.T) {
	l := chapterLines(t)
	text := edges(l)
	want := make([]int, len(text))
	for i, r := range text {
		want[i] = chapterProp(l, r).Bidi
	}
	if got := Bidi(text); !slices.Equal(got, want) {
		t.Errorf("Bidi(%x) = %d, not %d", text, got, want)
	}
	slices.Reverse(text)
	slices.Reverse(want)
	if got := Bidi(text); !slices.Equal(got, want) {
		t.Errorf("Bidi(%x) = %d, not %d", text, got, want)
	}
	if got := Bidi(slices.Repeat([]rune{'1', 'a'}, 1<<15)); !slices.Equal(got, slices.Repeat([]int{api.BidiEN, api.BidiL}, 1<<15)) {
		t.Error("Bidi of a long text has", len(got), "classes")
	}
}

func TestP4_2Rows(t *testing.T) {
	if got := Rows(); got != 260 {
		t.Error("Rows:", got)
	}
}

func TestP4_2Row(t *testing.T) {
	for i, x := range chapterLines(t) {
		where, prop := Row(i)
		if where != (ranges.Range{From: x.from, To: x.to}) || prop != x.prop {
			t.Errorf("Row(%d) = %v, %v, not %v", i, where, prop, x)
		}
	}
}

func TestP4_2RowOfSyllables(t *testing.T) {
	for i := range Rows() {
		if where, prop := Row(i); where.From == 0xAC00 {
			if where.To != 0xD7A3 || prop.Cluster != api.ClLVT || prop.Break != api.BrH3 {
				t.Errorf("Row(%d) = %v, %v", i, where, prop)
			}
			return
		}
	}
	t.Error("no row begins at AC00")
}

func TestP4_2RowsThatAreNot(t *testing.T) {
	for _, i := range []int{-1, -2, -51, -52, -53, -260, -261, -1 << 31, -1 << 32, math.MinInt + 1, math.MinInt, 260, 261, 311, 312, 520, 1 << 31, 1 << 32, 1<<32 + 5, math.MaxInt - 1, math.MaxInt} {
		if where, prop := Row(i); where != (ranges.Range{}) || prop != plain {
			t.Errorf("Row(%d) = %v, %v", i, where, prop)
		}
	}
}

func TestP4_2Same(t *testing.T) {
	l := chapterLines(t)
	codes := edges(l)
	want := make([]api.Prop, len(codes))
	for i, r := range codes {
		want[i] = chapterProp(l, r)
	}
	for i, a := range codes {
		for j, b := range codes {
			if got := Same(a, b); got != (want[i] == want[j]) {
				t.Fatalf("Same(%X, %X) = %t", a, b, got)
			}
		}
	}
}

func TestP4_2SameByHand(t *testing.T) {
	for _, x := range []struct {
		a, b rune
		want bool
	}{
		// In one row.
		{'a', 'a', true}, {'a', 'z', true}, {0x1F300, 0x1F3FA, true}, {0xAC00, 0xAC1C, true}, {0xAC01, 0xAC02, true}, {0xAC01, 0xD7A3, true}, {0xAC00, 0xAC01, false}, {0xAC1B, 0xAC1C, false},
		// In two rows with the same properties.
		{'A', 'a', true}, {'Z', 0x24F, true}, {0x300, 0x3099, true}, {0x627, 0x648, true}, {0x3400, 0x20000, true}, {'#', '#', true},
		// In rows with different ones.
		{'+', 0xFF01, false}, {0x85, 0x0B, false}, {'!', '&', false}, {'a', 0x3B1, false}, {0x628, 0x627, false}, {0x3041, 0x30A1, false}, {'<', '>', false}, {'<', '=', false},
		{'(', '[', false}, {'(', ')', false}, {')', ']', false}, {0x2018, 0x201C, false}, {'b', '1', false},
		// Without a row, and not code points.
		{0x250, 0x2FF, true}, {0x250, top, true}, {0x250, 'a', false}, {0x250, -1, true}, {-1, -1, true}, {-1, low, true}, {-1, 0xD800, true}, {0xD800, 0xDFFF, true}, {0xDFFF, top + 1, true},
		{low, high, true}, {high, 0xE000, true}, {-1, 'a', false}, {'a', high, false}, {0xDC00, 0xAC01, false}, {-1, 0, false}, {low, 0, false}, {top + 1, 0xE01EF, false}, {'a', 'a' + 1<<24, false},
	} {
		if got, back := Same(x.a, x.b), Same(x.b, x.a); got != x.want || back != x.want {
			t.Errorf("Same(%X, %X) = %t, and the other way round %t", x.a, x.b, got, back)
		}
	}
}

// No two code points of the table differ in the Cluster class, the Pair or in Opens alone.
func TestP4_2SameOfEachProperty(t *testing.T) {
	for _, x := range []struct {
		name string
		a, b rune
		even func(a, b *api.Prop)
	}{
		{"Bidi", 0x0B, 0x0C, func(a, b *api.Prop) { a.Bidi = b.Bidi }},
		{"Break", '&', '!', func(a, b *api.Prop) { a.Break = b.Break }},
		{"Script", 'a', 0xB5, func(a, b *api.Prop) { a.Script = b.Script }},
		{"Join", 0x627, 0x628, func(a, b *api.Prop) { a.Join = b.Join }},
		{"Word", 0x22, 0x27, func(a, b *api.Prop) { a.Word = b.Word }},
		{"Mirror", '<', '=', func(a, b *api.Prop) { a.Mirror = b.Mirror }},
		{"Mirror of both", '<', '>', func(a, b *api.Prop) { a.Mirror = b.Mirror }},
	} {
		a, b := Of(x.a), Of(x.b)
		if x.even(&a, &b); a != b {
			t.Errorf("%X and %X differ in more than the %s", x.a, x.b, x.name)
		}
		if Same(x.a, x.b) || Same(x.b, x.a) {
			t.Errorf("%X and %X differ in the %s", x.a, x.b, x.name)
		}
	}
}

func TestP4_2Canon(t *testing.T) {
	for _, x := range []struct{ r, want rune }{
		{0x2329, 0x3008}, {0x232A, 0x3009}, {0x2328, 0x2328}, {0x232B, 0x232B}, {0x3008, 0x3008}, {0x3009, 0x3009}, {'(', '('}, {')', ')'}, {0, 0}, {top, top},
		{0xFF08, 0xFF08}, {0xFF09, 0xFF09}, {0x250, 0x250}, {-0x2329, -0x2329}, {0x2329 + 1<<24, 0x2329 + 1<<24}, {0x232A - 1<<31, 0x232A - 1<<31},
	} {
		if got := Canon(x.r); got != x.want {
			t.Errorf("Canon(%X) = %X", x.r, got)
		}
	}
	for _, r := range notCodes() {
		if got := Canon(r); got != r {
			t.Errorf("Canon(%d) = %d", r, got)
		}
	}
	for r := rune(-0x3000); r <= top+0x3000; r++ {
		if got := Canon(r); got != r && r != 0x2329 && r != 0x232A {
			t.Fatalf("Canon(%X) = %X", r, got)
		}
	}
}

func TestP4_3RowsIncrease(t *testing.T) {
	before := rune(-1)
	for i := range Rows() {
		where, _ := Row(i)
		if where.From <= before || where.To < where.From || where.To > top {
			t.Errorf("row %d is %v, behind %X", i, where, before)
		}
		before = where.To
	}
}

func TestP4_3RowsAreWhatOfTells(t *testing.T) {
	for i := range Rows() {
		where, prop := Row(i)
		for _, r := range []rune{where.From, where.To} {
			got := Of(r)
			if r == 0xAC00 {
				got.Cluster, got.Break = api.ClLVT, api.BrH3
			}
			if got != prop {
				t.Errorf("row %d has %v, Of(%X) is %v", i, prop, r, got)
			}
		}
	}
}

func TestP4_3MirrorsAndPairs(t *testing.T) {
	want := map[rune]api.Prop{}
	for _, x := range [][2]rune{{'<', '>'}, {0xAB, 0xBB}, {0x2039, 0x203A}, {0x2208, 0x220B}, {0x2264, 0x2265}} {
		want[x[0]], want[x[1]] = api.Prop{Mirror: x[1]}, api.Prop{Mirror: x[0]}
	}
	for _, x := range [][2]rune{{'(', ')'}, {'[', ']'}, {'{', '}'}, {0x2045, 0x2046}, {0x2329, 0x232A}, {0x3008, 0x3009}, {0x300A, 0x300B}, {0x300C, 0x300D}, {0x300E, 0x300F},
		{0x3010, 0x3011}, {0xFF08, 0xFF09}} {
		want[x[0]], want[x[1]] = api.Prop{Mirror: x[1], Pair: x[1], Opens: true}, api.Prop{Mirror: x[0], Pair: x[0]}
	}
	for r := rune(0); r <= top; r++ {
		p := Of(r)
		if got := (api.Prop{Mirror: p.Mirror, Pair: p.Pair, Opens: p.Opens}); got != want[r] {
			t.Errorf("%X: %v, not %v", r, got, want[r])
		}
		if p.Mirror != 0 && Of(p.Mirror).Mirror != r {
			t.Errorf("the Mirror of %X is %X, whose Mirror is %X", r, p.Mirror, Of(p.Mirror).Mirror)
		}
		if p.Pair != 0 && (Of(p.Pair).Pair != r || Of(p.Pair).Opens == p.Opens) {
			t.Errorf("the Pair of %X is %X: %v and %v", r, p.Pair, p, Of(p.Pair))
		}
		if p.Pair == 0 && p.Opens {
			t.Errorf("%X opens no pair", r)
		}
	}
}

func TestR5ArgumentsAndResults(t *testing.T) {
	text := []rune{'a', -1, 0x5D0, 0x2329, '1'}
	room := append(slices.Clone(text), 77, 78)
	first := Bidi(room[:len(text)])
	if !slices.Equal(room, append(slices.Clone(text), 77, 78)) {
		t.Errorf("%x became %x", text, room)
	}
	want := []int{api.BidiL, api.BidiL, api.BidiR, api.BidiON, api.BidiEN}
	second := Bidi(text)
	clear(first)
	clear(text)
	if !slices.Equal(second, want) {
		t.Errorf("Bidi became %d", second)
	}
	where, prop := Row(17)
	where.From, prop.Mirror, prop.Opens = 5, 6, false
	if again, p := Row(17); again != (ranges.Range{From: '(', To: '('}) || p != Of('(') || p.Mirror != ')' || !p.Opens {
		t.Errorf("Row(17) became %v, %v", again, p)
	}
}

func TestExamples(t *testing.T) {
	if got := Of(0x28); got != (api.Prop{Bidi: api.BidiON, Cluster: api.ClAny, Break: api.BrOP, Script: api.ScCommon, Join: api.JnNone, Word: api.WdOther, Mirror: 0x29, Pair: 0x29, Opens: true}) {
		t.Error("Of(0x28):", got)
	}
	if got := Of(0xAC00); got.Cluster != api.ClLV || got.Break != api.BrH2 {
		t.Error("Of(0xAC00):", got)
	}
	if got := Of(0xAC01); got.Cluster != api.ClLVT || got.Break != api.BrH3 {
		t.Error("Of(0xAC01):", got)
	}
}
