package script

import (
	"math"
	"slices"
	"strings"
	"testing"

	"typecase/api"
	"typecase/brackets"
	"typecase/grapheme"
	"typecase/props"
)

// The code points of the tests are what they stand for; a mistake there would go unseen elsewhere.
func TestSigns(t *testing.T) {
	for letter, s := range signs() {
		p := props.Of(s.code)
		if p.Script != s.script {
			t.Errorf("%c is of the script %d", letter, p.Script)
		}
		joins := strings.ContainsRune("MNZVDETSXJ", letter)
		if alone := grapheme.Is([]rune{0xAC00, s.code}, 1); alone == joins && letter != 'P' {
			t.Errorf("%c joins the one before it: %t", letter, !alone)
		}
		if grapheme.Is([]rune{s.code, 'a'}, 1) == (letter == 'P') {
			t.Errorf("%c joins the one behind it: %t", letter, letter != 'P')
		}
		if strings.ContainsRune("()[]<>oq", letter) != (p.Pair != 0) {
			t.Errorf("%c has the pair %X", letter, p.Pair)
		}
	}
}

// row is a pattern and its scripts, written by hand.
type row struct{ pattern, want string }

// checkRows checks the scripts of the patterns.
func checkRows(t *testing.T, rows []row) {
	t.Helper()
	for _, row := range rows {
		text := spell(row.pattern)
		if got := tell(Resolve(text)); got != row.want {
			t.Errorf("%s: %s, not %s", row.pattern, got, row.want)
		}
		holds(t, text)
	}
}

func TestP14_1OneSign(t *testing.T) {
	checkRows(t, []row{
		{"", ""}, {"l", "l"}, {"g", "g"}, {"y", "y"}, {"h", "h"}, {"a", "a"}, {"c", "c"}, {"k", "k"}, {"j", "j"}, {"t", "t"}, {"d", "d"}, {"D", "d"}, {"E", "d"}, {"T", "t"}, {"S", "t"}, {"J", "j"},
		{".", "."}, {" ", "."}, {"1", "."}, {"n", "."}, {"x", "."}, {"u", "."}, {"e", "."}, {"P", "."}, {"X", "."}, {"M", "."}, {"N", "."}, {"Z", "."}, {"V", "."}, {"(", "."}, {")", "."}, {"-", "."}, {"s", "."}, {"+", "."},
	})
	for _, none := range [][]rune{nil, {}} {
		if len(Resolve(none)) != 0 || len(Runs(none)) != 0 || Main(none) != api.ScCommon {
			t.Error("there are scripts of nothing")
		}
	}
}

// Each code point alone, and those of the small rows between others.
func TestP14_1EveryCode(t *testing.T) {
	for code := rune(-0x10); code <= 0x110010; code++ {
		want := props.Of(code).Script
		if want == api.ScInherited {
			want = api.ScCommon
		}
		if got := Resolve([]rune{code}); len(got) != 1 || got[0] != want {
			t.Fatalf("%X: %v", code, got)
		}
		if code > 0x3400 && code%16 > 1 {
			continue
		}
		// Between two letters, but in a cluster of its own.
		if want == api.ScCommon {
			want = api.ScGreek
		}
		if got := Resolve([]rune{0x3B1, '\n', code, '\n', 'a'}); got[0] != api.ScGreek || got[2] != want || got[3] != want || got[4] != api.ScLatin {
			t.Fatalf("%X between others: %v", code, got)
		}
	}
}

func TestP14_1NoCodes(t *testing.T) {
	strange := strangeRunes()
	for _, code := range strange {
		if got := tell(Resolve([]rune{code})); got != "." {
			t.Errorf("%d alone: %s", code, got)
		}
		if got := tell(Resolve([]rune{code, 'a', code, 0x5D0, code, code})); got != "lllhhh" {
			t.Errorf("%d among others: %s", code, got)
		}
		if got := tell(Resolve([]rune{0x5D0, '(', code, 'a', code, ')', code})); got != "hhhllhh" {
			t.Errorf("%d between brackets: %s", code, got)
		}
	}
	if got := Resolve(strange); len(got) != len(strange) || slices.Max(got) != api.ScCommon {
		t.Error("all of them:", got)
	}
	lists(3, append(strange, 'a', 0x5D0, 0x301), func(text []rune) { holds(t, text) })
}

func TestP14_1NoScript(t *testing.T) {
	checkRows(t, []row{
		{"..", ".."}, {"1. ", "..."}, {"12(.)", "....."}, {"MM", ".."}, {"MNZV", "...."}, {".M", ".."}, {"M.", ".."}, {"M.M", "..."}, {"1M.ZnVP", "......."}, {"()", ".."}, {"(M)", "..."}, {"(.)M", "...."}, {")(", ".."}, {"eZe", "..."}, {"xP1M", "...."}, {"-s+u", "...."},
	})
}

func TestP14_1Places(t *testing.T) {
	checkRows(t, []row{
		{".l", "ll"}, {"l.", "ll"}, {".l.", "lll"}, {"...h", "hhhh"}, {"h...", "hhhh"}, {"1 l", "lll"}, {"l. h", "lllh"}, {"l.h.", "llhh"}, {".l.h.", "lllhh"}, {"..l..h..", "lllllhhh"}, {"l1a1l1", "llaall"}, {"g y", "ggy"}, {"c.k.j.", "cckkjj"}, {"t.d.", "ttdd"}, {"n.nh", "hhhh"}, {"hnxn", "hhhh"},
		{"Ml", "ll"}, {"lM", "ll"}, {"MlM", "lll"}, {"MMMh", "hhhh"}, {"hMMM", "hhhh"}, {"lMhM", "llhh"}, {"MhMlM", "hhhll"}, {"nMlnM", "lllll"}, {"lnMh", "lllh"}, {"lnMhnM", "lllhhh"}, {"nMMnMa", "aaaaaa"},
		{"M.l", "lll"}, {".Ml", "lll"}, {"l.M", "lll"}, {"lM.", "lll"}, {"l.Mh", "lllh"}, {".M.lM.Mh.M.", "lllllllhhhh"}, {"lhl", "lhl"}, {"lghyac", "lghyac"}, {"hh..ll", "hhhhll"}, {"l-h", "llh"}, {"lsuh+", "lllhh"},
	})
}

func TestP14_1Clusters(t *testing.T) {
	checkRows(t, []row{
		{"lMMM", "llll"}, {"lMZVM", "lllll"}, {"hNMl", "hhhl"}, {"dE", "dd"}, {"dDM", "ddd"}, {"tTl", "ttl"}, {"jJ", "jj"}, {"jJM.", "jjjj"},
		// One that begins with Common, or with Inherited.
		{".D", "dd"}, {".D.", "ddd"}, {"l.D", "ldd"}, {"l.Dl", "lddl"}, {"h1TM.", "htttt"}, {"l.MD", "lddd"}, {"l.MMDMh", "ldddddh"}, {"MD", "dd"}, {"MMT.", "tttt"}, {"lnMDh", "llddh"}, {"lnMMEMh", "llddddh"}, {"lnDh", "lldh"}, {"Pl", "ll"}, {"PPh", "hhh"}, {"lPh", "lhh"}, {"lPPhl", "lhhhl"}, {"lP.h", "lllh"}, {"lPMh", "lllh"}, {"lPDh", "lddh"}, {"lPnh", "lllh"}, {"lP", "ll"}, {"Pnh", "hhh"}, {"l.Xh", "lllh"}, {"eXh", "hhh"},
		// Two scripts in one: the first one decides.
		{"lD", "ll"}, {"lDh", "llh"}, {"hE", "hh"}, {"hT", "hh"}, {"hS.", "hhh"}, {"tD", "tt"}, {"dT", "dd"}, {"lDT", "lll"}, {"lMDMT", "lllll"}, {".DT", "ddd"}, {".TD", "ttt"}, {"h.TD.", "htttt"}, {"PlD", "lll"}, {"hPlD.", "hllll"}, {"PDT", "ddd"}, {"MTD", "ttt"}, {"hlD.", "hlll"}, {"h1DT1", "hdddd"}, {"jD", "jj"}, {"aMTn", "aaaa"}, {".MZTDVMl", "tttttttl"},
		// What is behind a control is in a cluster of its own.
		{"lnD", "lld"}, {"lnTD", "lltt"}, {"xT", "tt"}, {"lxTl", "lltl"},
	})
}

func TestP14_1Pairs(t *testing.T) {
	checkRows(t, []row{
		{"h(l)", "hhlh"}, {"h(l).", "hhlhh"}, {"h(l)M", "hhlhh"}, {"h(l)M.", "hhlhhh"}, {"h(l)l", "hhlhl"}, {"h(.)", "hhhh"}, {"h()", "hhh"}, {"h.(l)", "hhhlh"}, {"h(.l.)", "hhhllh"}, {"h(lgy)", "hhlgyh"}, {"h(lac.k)t", "hhlacckht"}, {"l(h)a(c)", "llhlaaca"},
		// Within one another, and beside one another.
		{"h(l[g]y)", "hhllglyh"}, {"h([l])", "hhhlhh"}, {"h(([l]))", "hhhhlhhh"}, {"h(l(g(y)))", "hhllggyglh"}, {"h(l)(g)", "hhlhhgh"}, {"h(l)[g](y)", "hhlhhghhyh"}, {"h()()", "hhhhh"}, {"h(l)()", "hhlhhh"}, {"h(l)g(y)", "hhlhggyg"}, {"h[(l)g]y", "hhhlhghy"}, {"h(l[g)]y", "hhllghhy"}, {"h[l(g]y)", "hhllghyy"},
		// One of the pair is the old angle bracket, or both are.
		{"h<l>", "hhlh"}, {"h<lq", "hhlh"}, {"hol>", "hhlh"}, {"holq", "hhlh"}, {"h<log>yq", "hhllglyh"}, {"h(l>", "hhll"}, {"h<l)", "hhll"},
		// What has no pair.
		{"h)", "hh"}, {"hl)", "hll"}, {"h(l", "hhl"}, {"h(l]", "hhll"}, {"h(l].", "hhlll"}, {"h)l(", "hhll"}, {"h((l)", "hhhlh"}, {"h(l))", "hhlhh"}, {"h(l)g)", "hhlhgg"}, {"h[(l]g)", "hhhlhgg"}, {"h*l/", "hhll"}, {"h(l/", "hhll"}, {"l)(h", "lllh"},
	})
}

func TestP14_1PairsAtTheStart(t *testing.T) {
	checkRows(t, []row{
		// Before the first script, and around it.
		{"()l", "lll"}, {"(.)l", "llll"}, {".(.)Mh", "hhhhhh"}, {")l", "ll"}, {"(l", "ll"}, {"(l)", "lll"}, {"(l)h", "lllh"}, {"(lh)", "llhl"}, {"(lh)a", "llhla"}, {"(lh).", "llhll"}, {".(lh)", "lllhl"}, {"([lh)", "lllhl"}, {"([l]h)", "llllhl"}, {"([l]h[a]c)", "llllhhahcl"}, {"[(lh)a]", "lllhlal"}, {"(l]h)", "lllhl"}, {")lh)", "llhh"}, {"()(lh)", "llllhl"}, {"M(lh)", "lllhl"}, {"(Mlh)", "lllhl"},
		{"<lhq", "llhl"}, {"olh>", "llhl"}, {"(l[h]a)", "lllhlal"},
	})
}

// Pairs whose brackets have others in their clusters.
func TestP14_1PairsInClusters(t *testing.T) {
	checkRows(t, []row{
		// Behind the closing one.
		{"h(l)M", "hhlhh"}, {"h(l)MZ.", "hhlhhhh"}, {"h(l)D", "hhldd"}, {"h(l)D.", "hhlddd"}, {"h(l)MTD", "hhltttt"}, {"h(l)V(g)N", "hhlhhhghh"}, {"hlM)D", "hlldd"},
		// Behind the opening one.
		{"h(Ml)", "hhhlh"}, {"h(Dl)", "hddld"}, {"h(Dl).", "hddldd"}, {"h(TDl)M", "htttltt"}, {"h(Dl)T", "hddltt"}, {"h(D[l]g)", "hdddldgd"}, {"h(D)", "hddd"}, {"(Dl)", "ddld"}, {".(Dl)", "dddld"}, {"(MDl)", "dddld"},
		// Before the closing one: it isn't the first of its cluster.
		{"h(lP)", "hhlll"}, {"h(lP)M.", "hhlllll"}, {"h(lPP)", "hhllll"}, {"h(lP)D", "hhlddd"}, {"h(l[gP])", "hhllgggh"},
		// Before the opening one.
		{"hP(l)", "hhhlh"}, {"hP(Dl)", "hdddld"}, {"hPP(Tl)", "httttlt"}, {"P(lh)", "lllhl"}, {"lhP(aP)", "lhhhaaa"}, {"h(lP[g])", "hhlllglh"},
	})
}

// What is within embeddings and overrides is paired all the same: the classes are those of the code points.
func TestP14_1PairsWithinControls(t *testing.T) {
	checkRows(t, []row{
		{"hr(l)", "hhhlh"}, {"hr(lr)", "hhhllh"}, {"h(rl)", "hhhlh"}, {"h(lr)r", "hhllhh"}, {"h(nl)", "hhhlh"}, {"h(ln)n", "hhllhh"},
	})
	for _, pair := range [][2]rune{{'(', ')'}, {'[', ']'}, {'{', '}'}, {0x2045, 0x2046}, {0x2329, 0x232A}, {0x3008, 0x3009}, {0x2329, 0x3009}, {0x3008, 0x232A}, {0x300A, 0x300B}, {0x300C, 0x300D}, {0x300E, 0x300F}, {0x3010, 0x3011}, {0xFF08, 0xFF09}} {
		text := []rune{0x5D0, pair[0], 'a', pair[1], '.'}
		if got := tell(Resolve(text)); got != "hhlhh" {
			t.Errorf("%X: %s", pair, got)
		}
	}
	// These look like pairs, or are mirrored, but have no Pair.
	for _, both := range [][2]rune{{'<', '>'}, {0xAB, 0xBB}, {0x2039, 0x203A}, {0x2018, 0x2019}, {0x201C, 0x201D}, {0x2208, 0x220B}, {0x2264, 0x2265}, {0x27E6, 0x27E7}, {0xFF3B, 0xFF3D}, {'/', '/'}, {'"', '"'}, {')', '('}, {'(', '('}, {')', ')'}} {
		text := []rune{0x5D0, both[0], 'a', both[1], '.'}
		if got := tell(Resolve(text)); got != "hhlll" {
			t.Errorf("%X: %s", both, got)
		}
	}
}

// All brackets of the table are of class ON, and the classes are those of the code points, whatever is around them: so each one pairs with its Pair. What is mirrored only pairs with nothing.
func TestP14_1EveryBracket(t *testing.T) {
	pairs, mirrored := 0, 0
	for code := rune(0); code <= 0x10FFFF; code++ {
		p := props.Of(code)
		if p.Pair != 0 && p.Bidi != api.BidiON {
			t.Errorf("%X is a bracket of the class %d", code, p.Bidi)
		}
		other, want := p.Pair, "hhlhh"
		switch {
		case p.Opens:
			pairs++
		case p.Pair == 0 && p.Mirror != 0:
			other, want = p.Mirror, "hhlll"
			mirrored++
		default:
			continue
		}
		if got := tell(Resolve([]rune{0x5D0, code, 'a', other, '.'})); got != want {
			t.Errorf("%X and %X: %s, not %s", code, other, got, want)
		}
		// Within an embedding, an override and an isolate.
		for _, control := range []rune{0x202A, 0x202B, 0x202D, 0x202E, 0x2066, 0x2067, 0x2068} {
			text := []rune{0x5D0, control, code, 'a', other, '.'}
			if got := tell(Resolve(text)); got != "h"+want {
				t.Errorf("%X behind %X: %s, not %s", code, control, got, "h"+want)
			}
			holds(t, text)
		}
	}
	if pairs != 11 || mirrored == 0 {
		t.Errorf("there are %d opening brackets and %d that are mirrored only", pairs, mirrored)
	}
}

// There are pairs only as long as the stack of layer 9 holds the opening brackets.
func TestP14_1Depth(t *testing.T) {
	for _, n := range []int{1, 2, 62, 63, 64, 65, 200} {
		open, closed := strings.Repeat("(", n), strings.Repeat(")", n)
		inner := n
		if n > 63 {
			inner = 0
		}
		rows := []row{
			{"h" + open + "l" + closed, "h" + strings.Repeat("h", n) + "l" + strings.Repeat("h", inner) + strings.Repeat("l", n-inner)},
			{open + "lh" + closed, strings.Repeat("l", n) + "lh" + strings.Repeat("l", inner) + strings.Repeat("h", n-inner)},
			{"h(l)" + open + "g" + closed, "hhlh" + strings.Repeat("h", n) + "g" + strings.Repeat("h", inner) + strings.Repeat("g", n-inner)},
		}
		if n >= 63 {
			rows = append(rows, row{"h" + open + "l[g]", "h" + strings.Repeat("h", n) + "llgg"})
		}
		checkRows(t, rows)
	}
	// One that is closed makes room for another.
	full := strings.Repeat("(", 62)
	checkRows(t, []row{{"h" + full + "(l)(g)", "h" + strings.Repeat("h", 63) + "lhhgh"}, {"h" + full + "(l[g])", "h" + strings.Repeat("h", 63) + "llggg"}})
}

func TestP14_1Runs(t *testing.T) {
	const L, H, A, G, none = api.ScLatin, api.ScHebrew, api.ScArabic, api.ScGreek, api.ScCommon
	for _, c := range []struct {
		pattern string
		want    []api.Span
	}{
		{"", nil}, {"l", []api.Span{{From: 0, To: 1, Val: L}}}, {".", []api.Span{{From: 0, To: 1, Val: none}}}, {"M", []api.Span{{From: 0, To: 1, Val: none}}}, {"...M", []api.Span{{From: 0, To: 4, Val: none}}}, {"llll", []api.Span{{From: 0, To: 4, Val: L}}}, {".l.M ", []api.Span{{From: 0, To: 5, Val: L}}},
		{"lh", []api.Span{{From: 0, To: 1, Val: L}, {From: 1, To: 2, Val: H}}}, {"l.h.", []api.Span{{From: 0, To: 2, Val: L}, {From: 2, To: 4, Val: H}}}, {"lhl", []api.Span{{From: 0, To: 1, Val: L}, {From: 1, To: 2, Val: H}, {From: 2, To: 3, Val: L}}}, {"lMhMlM", []api.Span{{From: 0, To: 2, Val: L}, {From: 2, To: 4, Val: H}, {From: 4, To: 6, Val: L}}},
		{"h(l)", []api.Span{{From: 0, To: 2, Val: H}, {From: 2, To: 3, Val: L}, {From: 3, To: 4, Val: H}}}, {"h(a)(g).", []api.Span{{From: 0, To: 2, Val: H}, {From: 2, To: 3, Val: A}, {From: 3, To: 5, Val: H}, {From: 5, To: 6, Val: G}, {From: 6, To: 8, Val: H}}}, {"..aag..", []api.Span{{From: 0, To: 4, Val: A}, {From: 4, To: 7, Val: G}}},
	} {
		if got := Runs(spell(c.pattern)); !slices.Equal(got, c.want) {
			t.Errorf("%s: %v, not %v", c.pattern, got, c.want)
		}
	}
}

func TestP14_2Main(t *testing.T) {
	for pattern, want := range map[string]int{
		"": api.ScCommon, ".": api.ScCommon, "M": api.ScCommon, "1.M(": api.ScCommon, "-s+": api.ScCommon,
		"l": api.ScLatin, "g": api.ScGreek, "y": api.ScCyrillic, "h": api.ScHebrew, "a": api.ScArabic, "c": api.ScHan, "k": api.ScKana, "j": api.ScHangul, "t": api.ScThai, "d": api.ScDevanagari, "...d": api.ScDevanagari, "t...": api.ScThai,
		"llh": api.ScLatin, "lhh": api.ScHebrew, "hhl": api.ScHebrew, "hll": api.ScLatin, "lhl": api.ScLatin, "hlh": api.ScHebrew, "lhahc": api.ScHebrew, "dddtt": api.ScDevanagari, "ttddd": api.ScDevanagari,
		"lh": api.ScLatin, "hl": api.ScLatin, "ah": api.ScHebrew, "ha": api.ScHebrew, "dt": api.ScThai, "dtjkcahygl": api.ScLatin, "lgyhackjtd": api.ScLatin, "ddtt": api.ScThai, "dchdchg": api.ScHebrew, "caca": api.ScArabic, "dtdtg": api.ScThai,
		"l.h": api.ScLatin, "lh.": api.ScHebrew, "l.h..": api.ScHebrew, ".hl": api.ScHebrew, "M.hl": api.ScHebrew, "lhMM": api.ScHebrew, "h(ll)": api.ScHebrew, "h(lll)": api.ScLatin, "h.(llll)": api.ScLatin, "..l....hh": api.ScLatin,
	} {
		if got := Main(spell(pattern)); got != want {
			t.Errorf("%s: %d, not %d", pattern, got, want)
		}
	}
}

// askedScripts are the numbers about which the tests ask.
func askedScripts() []int {
	asked := []int{math.MinInt, math.MinInt + 1, math.MinInt32, 1 << 8, 1<<8 + api.ScHebrew, 1<<16 + api.ScLatin, math.MaxInt32, 1 << 32, 1<<32 + api.ScLatin, 1<<32 + api.ScHebrew, 1<<32 + api.ScArabic, 1<<32 + api.ScHan, math.MaxInt - 1, math.MaxInt}
	for script := -300; script <= 300; script++ {
		asked = append(asked, script)
	}
	return asked
}

func TestP14_2Horizontal(t *testing.T) {
	want := map[int]bool{0: true, 1: true, 2: true, 3: true, 4: true, 5: true, 6: true, 10: true, 11: true}
	for _, script := range askedScripts() {
		if got := Horizontal(script); got != want[script] {
			t.Errorf("%d: %t", script, got)
		}
	}
	if Horizontal(api.ScHan) || Horizontal(api.ScKana) || Horizontal(api.ScHangul) || !Horizontal(api.ScCommon) || !Horizontal(api.ScInherited) || !Horizontal(api.ScLatin) || !Horizontal(api.ScArabic) || !Horizontal(api.ScThai) || !Horizontal(api.ScDevanagari) {
		t.Error("the scripts have other numbers")
	}
}

func TestP14_2Rtl(t *testing.T) {
	for _, script := range askedScripts() {
		if got := Rtl(script); got != (script == 5 || script == 6) {
			t.Errorf("%d: %t", script, got)
		}
	}
	if !Rtl(api.ScHebrew) || !Rtl(api.ScArabic) || Rtl(api.ScCyrillic) || Rtl(api.ScHan) || Rtl(api.ScCommon) {
		t.Error("the scripts have other numbers")
	}
}

// Texts of a few code points, all of them, against the chapter: each call checks P14.1 to P14.4.
func TestP14_3ShortTexts(t *testing.T) {
	check := func(text []rune) { holds(t, text) }
	lists(3, append(spell("lgyhackjtd.1nxrue-s+MNZVDETSPXJ()[]<>oq*/"), 'A', 0x5D1), check)
	lists(5, spell("lh.MDPn()"), check)
	lists(6, spell("lh()M"), check)
	lists(6, spell("lD[]<q"), check)
}

func TestP14_3LongTexts(t *testing.T) {
	next := stream()
	every := append(spell("lgyhackjtd. 1nxrue-s+MNZVDETSPXJ()[]<>oq*/"), strangeRunes()...)
	for range 3000 {
		holds(t, some(next, next(80), every))
		holds(t, some(next, next(80), spell("((([[[<<))))]]]>>qolha.MDP")))
		holds(t, some(next, next(80), spell("(.).M1n lh")))
		text := make([]rune, next(30))
		for i := range text {
			text[i] = rune(next(0x3200))
		}
		holds(t, text)
	}
}

// Runs are as long as possible, be there one of them or one a cluster.
func TestP14_4Runs(t *testing.T) {
	for n := 1; n < 200; n++ {
		text := spell(strings.Repeat("lhMa", n))
		if got := len(Runs(text)); got != 3*n {
			t.Errorf("%d times three scripts: %d runs", n, got)
		}
		holds(t, text)
		text = spell(strings.Repeat("l.M1", n))
		if got := Runs(text); !slices.Equal(got, []api.Span{{From: 0, To: 4 * n, Val: api.ScLatin}}) {
			t.Errorf("%d times one script: %v", n, got)
		}
	}
}

func TestR5Arguments(t *testing.T) {
	lists(5, spell("lh.M()"), func(text []rune) {
		// What lies behind the text stays as it is, too.
		room := append(slices.Clone(text), 'z', ')', 0x301)
		given := room[:len(text)]
		Resolve(given)
		Runs(given)
		Main(given)
		if !slices.Equal(room, append(slices.Clone(text), 'z', ')', 0x301)) {
			t.Fatalf("%X became %X", text, room)
		}
		if got := Resolve(given); !slices.Equal(got, Resolve(text)) {
			t.Fatalf("%X: what lies behind the text counts: %v", text, got)
		}
	})
}

func TestR5Results(t *testing.T) {
	lists(5, spell("lh.M()"), func(text []rune) {
		given := slices.Clone(text)
		scripts, again, runs, runsAgain := Resolve(given), Resolve(given), Runs(given), Runs(given)
		want, wantRuns := slices.Clone(scripts), slices.Clone(runs)
		spoil(given, 'z')
		spoil(scripts, 99)
		spoil(runs, api.Span{From: 7, To: 8, Val: 9})
		if !slices.Equal(again, want) || !slices.Equal(runsAgain, wantRuns) {
			t.Fatalf("%X: the results of two calls share memory", text)
		}
		if !slices.Equal(given[:cap(given)], slices.Repeat([]rune{'z'}, cap(given))) {
			t.Fatalf("%X: the argument shares memory with a result", text)
		}
		if !slices.Equal(Resolve(text), want) || !slices.Equal(Runs(text), wantRuns) {
			t.Fatalf("%X: a later call is changed", text)
		}
	})
}

// No call hangs on those before it.
func TestR4Calls(t *testing.T) {
	for range 3 {
		checkRows(t, []row{{"h(l)", "hhlh"}, {"", ""}, {".", "."}, {")", "."}, {"l", "l"}, {".)", ".."}, {"(D", "dd"}, {"(.)", "..."}})
	}
}

// Texts of the greatest length.
func TestR8Long(t *testing.T) {
	half := most / 2
	for _, c := range []struct{ pattern, want string }{
		{strings.Repeat("l", most), strings.Repeat("l", most)}, {strings.Repeat(".", most), strings.Repeat(".", most)}, {strings.Repeat("M", most), strings.Repeat(".", most)}, {strings.Repeat(".", most-1) + "h", strings.Repeat("h", most)}, {"h" + strings.Repeat(".", most-1), strings.Repeat("h", most)}, {"h" + strings.Repeat("M", most-1), strings.Repeat("h", most)}, {strings.Repeat("P", most-1) + "h", strings.Repeat("h", most)}, {"." + strings.Repeat("M", most-2) + "D", strings.Repeat("d", most)},
		{strings.Repeat("lh", half), strings.Repeat("lh", half)}, {strings.Repeat("h(l)", half/2), strings.Repeat("hhlh", half/2)}, {strings.Repeat("h.", half), strings.Repeat("h", most)}, {"h" + strings.Repeat("(l)", most/3), "h" + strings.Repeat("hlh", most/3)}, {"h" + strings.Repeat("()", half-1) + "l", strings.Repeat("h", most-1) + "l"}, {"h(" + strings.Repeat("l", most-3) + ")", "hh" + strings.Repeat("l", most-3) + "h"}, {strings.Repeat("(", half) + "l" + strings.Repeat(")", half-1), strings.Repeat("l", most)},
	} {
		text := spell(c.pattern)
		scripts := Resolve(text)
		if tell(scripts) != c.want {
			t.Errorf("%s ..: %s ..", c.pattern[:8], tell(scripts[:8]))
		}
		sound(t, text, scripts)
		agrees(t, text, scripts, Runs(text))
		if got, want := Main(text), mainByChapter(scripts); got != want {
			t.Errorf("%s ..: Main is %d, not %d", c.pattern[:8], got, want)
		}
	}
}

func TestExamples(t *testing.T) {
	for _, c := range []struct {
		text []rune
		want []int
	}{
		{[]rune("a, b"), []int{api.ScLatin, api.ScLatin, api.ScLatin, api.ScLatin}}, {[]rune("1 a"), []int{api.ScLatin, api.ScLatin, api.ScLatin}}, {[]rune("12"), []int{api.ScCommon, api.ScCommon}},
		{[]rune{0x5D0, '(', 'a', ')', 0x5D1}, []int{api.ScHebrew, api.ScHebrew, api.ScLatin, api.ScHebrew, api.ScHebrew}},
	} {
		if got := Resolve(c.text); !slices.Equal(got, c.want) {
			t.Errorf("%X: %v, not %v", c.text, got, c.want)
		}
	}
	if got := Main([]rune{'a', 'b', 0x5D0}); got != api.ScLatin {
		t.Error("Main is", got)
	}
	// The own tables of these tests are right about what is paired.
	if got := brackets.Pairs([]rune{0x5D0, '(', 'a', ')'}, props.Bidi([]rune{0x5D0, '(', 'a', ')'})); !slices.Equal(got, [][2]int{{1, 3}}) {
		t.Error("the pairs are", got)
	}
}
