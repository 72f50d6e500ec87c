package weak

import (
	"math"
	"slices"
	"testing"

	"typecase/api"
)

// handRow is a pattern and what a rule makes of it, written by hand, with the class at the start; where none is told it is the same with each.
type handRow struct{ start, pattern, want string }

// starts returns the classes at the start for which the row is told.
func (row handRow) starts() []int {
	if row.start == "" {
		return bothStarts()
	}
	return spell(row.start)
}

// checkRows checks the rule against the rows.
func checkRows(t *testing.T, rule func(classes []int, sos int) []int, rows []handRow) {
	t.Helper()
	for _, row := range rows {
		classes := spell(row.pattern)
		for _, sos := range row.starts() {
			if got := rule(classes, sos); !slices.Equal(got, spell(row.want)) {
				t.Errorf("%s behind %d: %v, not %s", row.pattern, sos, got, row.want)
			}
		}
		holds(t, classes)
	}
}

// alone makes a rule that looks at the start of one that does not.
func alone(rule func(classes []int) []int) func(classes []int, sos int) []int {
	return func(classes []int, _ int) []int { return rule(classes) }
}

func TestP13_1OneClass(t *testing.T) {
	checkRows(t, Weak, []handRow{
		{"", "", ""}, {"", "l", "l"}, {"", "r", "r"}, {"", "a", "r"}, {"l", "e", "l"}, {"r", "e", "e"}, {"", "s", "."}, {"", "t", "."}, {"", "n", "n"}, {"", "c", "."}, {"l", "m", "l"}, {"r", "m", "r"},
		{"", "x", "x"}, {"", "b", "b"}, {"", "g", "g"}, {"", "w", "w"}, {"", ".", "."}, {"", "L", "L"}, {"", "X", "X"}, {"", "R", "R"}, {"", "Y", "Y"}, {"", "p", "p"},
		{"", "<", "<"}, {"", "(", "("}, {"", "[", "["}, {"", ")", ")"}, {"", "?", "?"}, {"", "!", "!"}, {"", "-", "-"},
	})
	for _, sos := range bothStarts() {
		for _, none := range [][]int{nil, {}} {
			if len(Weak(none, sos))+len(W1(none, sos))+len(W4(none))+len(W5(none)) != 0 {
				t.Error("there are classes of nothing")
			}
		}
		for _, class := range strangeClasses() {
			one := []int{class}
			if !slices.Equal(Weak(one, sos), one) || !slices.Equal(W1(one, sos), one) || !slices.Equal(W4(one), one) || !slices.Equal(W5(one), one) {
				t.Errorf("%d alone behind %d is changed", class, sos)
			}
		}
	}
}

// Whatever is neither L nor R counts as L at the start, an AL and an NSM too.
func TestP13_1OtherStarts(t *testing.T) {
	next := stream()
	check := func(classes []int) {
		for _, sos := range everyClass() {
			if sos == api.BidiR {
				continue
			}
			if got, want := Weak(classes, sos), byChapter(classes, api.BidiL); !slices.Equal(got, want) {
				t.Fatalf("Weak(%v, %d) = %v, not %v", classes, sos, got, want)
			}
			if got, want := W1(classes, sos), w1ByChapter(classes, api.BidiL); !slices.Equal(got, want) {
				t.Fatalf("W1(%v, %d) = %v, not %v", classes, sos, got, want)
			}
		}
	}
	lists(3, spell("metanr<?"), check)
	for range 200 {
		check(some(next, next(20), everyClass()))
	}
	for _, sos := range []int{math.MinInt, -2, -1, 0, api.BidiAL, api.BidiEN, api.BidiAN, api.BidiNSM, api.BidiON, api.BidiRLI, 24, 1<<32 + api.BidiR, math.MaxInt} {
		if got := Weak(spell("mtet.e"), sos); !slices.Equal(got, spell("llll.l")) {
			t.Errorf("behind %d: %v", sos, got)
		}
		if got := W1(spell("mmem"), sos); !slices.Equal(got, spell("llee")) {
			t.Errorf("W1 behind %d: %v", sos, got)
		}
	}
}

// checkBoth checks that Weak makes the wanted classes of the classes with each class at the start.
func checkBoth(t *testing.T, classes, want []int) {
	t.Helper()
	for _, sos := range bothStarts() {
		if got := Weak(classes, sos); !slices.Equal(got, want) {
			t.Errorf("%v behind %d: %v, not %v", classes, sos, got, want)
		}
	}
}

func TestP13_1W1(t *testing.T) {
	checkRows(t, W1, []handRow{
		{"", "", ""}, {"l", "m", "l"}, {"r", "m", "r"}, {"l", "mm", "ll"}, {"r", "mmm", "rrr"}, {"r", "mlm", "rll"}, {"l", "mrm", "lrr"}, {"r", "mmemam", "rreeaa"},
		{"", "lm", "ll"}, {"", "rm", "rr"}, {"", "am", "aa"}, {"", "em", "ee"}, {"", "sm", "ss"}, {"", "tm", "tt"}, {"", "nm", "nn"}, {"", "cm", "cc"}, {"", "xm", "xx"}, {"", "bm", "bb"}, {"", "gm", "gg"}, {"", "wm", "ww"}, {"", ".m", ".."},
		{"", "Lm", "LL"}, {"", "Xm", "XX"}, {"", "Rm", "RR"}, {"", "Ym", "YY"}, {"", "pm", "pp"},
		{"", "<m", "<."}, {"", "(m", "(."}, {"", "[m", "[."}, {"", ")m", ")."}, {"", "?m", "?."}, {"", "!m", "!."}, {"", "-m", "-."},
		{"", "<mm", "<.."}, {"", "(mmm", "(..."}, {"", "[mm", "[.."}, {"", ")mm", ").."}, {"", "?mm", "?.."}, {"", "-mm", "-.."}, {"", "l<mml", "l<..l"}, {"", "r)m)mem", "r).).ee"},
		{"", "ammm", "aaaa"}, {"", "emmtmm", "eeettt"}, {"", "lmrmam", "llrraa"}, {"", "ememem", "eeeeee"}, {"", "smcm", "sscc"},
		{"", "aesetnc.w", "aesetnc.w"}, {"", "<l)er", "<l)er"}, {"", "eset", "eset"}, {"", "nce", "nce"}, {"", "tem", "tee"}, {"", "aem", "aee"}, {"", "esm", "ess"},
	})
}

// The other rules see the classes that NSMs have taken.
func TestP13_1Marks(t *testing.T) {
	checkRows(t, Weak, []handRow{
		{"l", "me", "ll"}, {"r", "me", "re"}, {"", "ame", "rrn"}, {"", "amem", "rrnn"}, {"", "lm", "ll"}, {"", "am", "rr"}, {"", "amm.m", "rrr.."}, {"", "sm", ".."}, {"", "tmm", "..."}, {"", "cm", ".."}, {"", "nmm", "nnn"}, {"l", "emm", "lll"}, {"r", "emm", "eee"},
		{"r", "tme", "eee"}, {"l", "tme", "lll"}, {"r", "smte", "..ee"}, {"l", "smte", "..ll"}, {"r", "ems", "ee."}, {"r", "emse", "eeee"}, {"r", "esme", "e..e"}, {"r", "etm", "eee"}, {"r", "emt", "eee"}, {"", "ncmn", "n..n"}, {"", "nmcn", "nnnn"}, {"", "cmn", "..n"},
		{"", "l<mel)me", "l<.ll).l"}, {"", "r<me)me", "r<.e).e"}, {"", "a<me", "r<.n"}, {"", "aw?me", "rw?.n"}, {"r", "?mte", "?.ee"}, {"r", "e<mte", "e<.ee"},
	})
}

func TestP13_1W2(t *testing.T) {
	checkRows(t, Weak, []handRow{
		{"", "ae", "rn"}, {"", "le", "ll"}, {"", "re", "re"}, {"l", "e", "l"}, {"r", "e", "e"}, {"l", ".e", ".l"}, {"r", ".e", ".e"}, {"l", "ea", "lr"}, {"r", "ea", "er"}, {"r", "eae", "ern"}, {"l", "eae", "lrn"},
		{"", "a.e", "r.n"}, {"", "awe", "rwn"}, {"", "abe", "rbn"}, {"", "agxe", "rgxn"}, {"", "a<e", "r<n"}, {"", "a)e", "r)n"}, {"", "a([e))e", "r([n))n"}, {"", "aLRXYpe", "rLRXYpn"}, {"", "a?e", "r?n"}, {"", "a!-e", "r!-n"}, {"", "ase", "r.n"}, {"", "ate", "r.n"}, {"", "ace", "r.n"}, {"", "ane", "rnn"}, {"", "acne", "r.nn"}, {"", "rne", "rne"},
		{"", "aee", "rnn"}, {"", "aeeee", "rnnnn"}, {"", "a.e.e", "r.n.n"}, {"", "anene", "rnnnn"}, {"", "awe?e", "rwn?n"},
		{"", "ale", "rll"}, {"", "are", "rre"}, {"", "a.l.e", "r.l.l"}, {"", "a.r.e", "r.r.e"}, {"", "lae", "lrn"}, {"", "rae", "rrn"}, {"", "alae", "rlrn"}, {"", "aleae", "rllrn"}, {"", "aerele", "rnrell"}, {"", "aaree", "rrree"}, {"", "aele", "rnll"}, {"", "rear", "rerr"},
	})
}

func TestP13_1W3(t *testing.T) {
	checkRows(t, Weak, []handRow{
		{"", "a", "r"}, {"", "aaa", "rrr"}, {"", "lar", "lrr"}, {"", "a.a", "r.r"}, {"", "la", "lr"}, {"", "ra", "rr"}, {"", "na", "nr"}, {"", "wa<a)", "wr<r)"}, {"", "am", "rr"}, {"", "a?a", "r?r"},
	})
	if got := W4(spell("ancn")); !slices.Equal(got, spell("annn")) {
		t.Error("W4 alone turns an AL:", got)
	}
}

func TestP13_1W4Alone(t *testing.T) {
	checkRows(t, alone(W4), []handRow{
		{"", "", ""}, {"", "ese", "eee"}, {"", "ece", "eee"}, {"", "ncn", "nnn"}, {"", "nsn", "nsn"}, {"", "ecn", "ecn"}, {"", "nce", "nce"}, {"", "esn", "esn"}, {"", "nse", "nse"},
		{"", "s", "s"}, {"", "c", "c"}, {"", "se", "se"}, {"", "ce", "ce"}, {"", "cn", "cn"}, {"", "sn", "sn"}, {"", "es", "es"}, {"", "ec", "ec"}, {"", "nc", "nc"}, {"", "ns", "ns"}, {"", "cecec", "ceeec"}, {"", "secesn", "seeesn"}, {"", "cncnc", "cnnnc"}, {"", "sesec", "seeec"},
		{"", "esse", "esse"}, {"", "ecce", "ecce"}, {"", "nccn", "nccn"}, {"", "esce", "esce"}, {"", "ecse", "ecse"}, {"", "nscn", "nscn"}, {"", "sss", "sss"}, {"", "ccc", "ccc"}, {"", "scs", "scs"}, {"", "csc", "csc"},
		{"", "ecece", "eeeee"}, {"", "esecese", "eeeeeee"}, {"", "ncncn", "nnnnn"}, {"", "ecencn", "eeennn"}, {"", "ncnece", "nnneee"}, {"", "ecence", "eeence"}, {"", "nsncn", "nsnnn"}, {"", "eceece", "eeeeee"}, {"", "lecel", "leeel"},
		{"", "lcl", "lcl"}, {"", "rcr", "rcr"}, {"", "aca", "aca"}, {"", "rsr", "rsr"}, {"", "tct", "tct"}, {"", "tst", "tst"}, {"", ".c.", ".c."}, {"", "wsw", "wsw"}, {"", "<c<", "<c<"}, {"", "xcx", "xcx"}, {"", "mcm", "mcm"}, {"", "?c?", "?c?"}, {"", "-c-", "-c-"}, {"", "!s!", "!s!"},
		{"", "ete", "ete"}, {"", "e.e", "e.e"}, {"", "ewe", "ewe"}, {"", "ebe", "ebe"}, {"", "exe", "exe"}, {"", "e?e", "e?e"}, {"", "n-n", "n-n"}, {"", "ntn", "ntn"}, {"", "eme", "eme"}, {"", "emce", "emce"}, {"", "ecme", "ecme"}, {"", "ene", "ene"}, {"", "nen", "nen"},
		{"", "aece", "aeee"}, {"", "aecn", "aecn"}, {"", "mtaecet", "mtaeeet"},
	})
}

// The rule sees the classes that W2 has changed.
func TestP13_1W4(t *testing.T) {
	checkRows(t, Weak, []handRow{
		{"l", "ese", "lll"}, {"r", "ese", "eee"}, {"l", "ece", "lll"}, {"r", "ece", "eee"}, {"", "ncn", "nnn"}, {"", "nsn", "n.n"}, {"l", "ecn", "l.n"}, {"r", "ecn", "e.n"}, {"l", "nce", "n.l"}, {"r", "nce", "n.e"}, {"", "rese", "reee"}, {"", "lece", "llll"}, {"", "resec", "reee."}, {"", "rcece", "r.eee"},
		{"r", "ecece", "eeeee"}, {"l", "ecece", "lllll"}, {"", "resecese", "reeeeeee"}, {"", "rnccn", "rn..n"}, {"", "resse", "re..e"}, {"r", "ecse", "e..e"},
		{"", "aece", "rnnn"}, {"", "aese", "rn.n"}, {"", "aecn", "rnnn"}, {"", "ance", "rnnn"}, {"", "aesn", "rn.n"}, {"", "aecece", "rnnnnn"}, {"", "aecle", "rn.ll"}, {"", "aecere", "rnnnre"}, {"", "aecrece", "rn.reee"}, {"", "rece.aece", "reee.rnnn"},
	})
}

func TestP13_1W5Alone(t *testing.T) {
	checkRows(t, alone(W5), []handRow{
		{"", "", ""}, {"", "t", "t"}, {"", "tt", "tt"}, {"", "tttt", "tttt"}, {"", "te", "ee"}, {"", "et", "ee"}, {"", "tte", "eee"}, {"", "ett", "eee"}, {"", "ete", "eee"}, {"", "ette", "eeee"}, {"", "tttttte", "eeeeeee"}, {"", "etttttt", "eeeeeee"}, {"", "ettttte", "eeeeeee"},
		{"", "tet", "eee"}, {"", "ttett", "eeeee"}, {"", "tettett", "eeeeeee"}, {"", "teet", "eeee"}, {"", "ltel", "leel"}, {"", "lettl", "leeel"}, {"", "ltl", "ltl"}, {"", "ltt", "ltt"}, {"", "ttr", "ttr"}, {"", "ttlte", "ttlee"}, {"", "etltt", "eeltt"}, {"", "tlttetlt", "tleeeelt"},
		{"", "tn", "tn"}, {"", "nt", "nt"}, {"", "ntn", "ntn"}, {"", "nttn", "nttn"}, {"", "nte", "nee"}, {"", "etn", "een"}, {"", "nttettn", "neeeeen"}, {"", "tnte", "tnee"}, {"", "etnt", "eent"}, {"", "tne", "tne"}, {"", "ent", "ent"},
		{"", "t.e", "t.e"}, {"", "e.t", "e.t"}, {"", "twe", "twe"}, {"", "ext", "ext"}, {"", "tce", "tce"}, {"", "est", "est"}, {"", "t<e", "t<e"}, {"", "e)t", "e)t"}, {"", "t?e", "t?e"}, {"", "e-t", "e-t"}, {"", "tme", "tme"}, {"", "emt", "emt"}, {"", "tmte", "tmee"}, {"", "?t?", "?t?"}, {"", "mtm", "mtm"},
		{"", "ece", "ece"}, {"", "ese", "ese"}, {"", "ate", "aee"}, {"", "aet", "aee"}, {"", "ltcle", "ltcle"}, {"", "etce", "eece"}, {"", "scte", "scee"},
	})
}

// The rule sees the classes that W2 has changed, and W4 has not seen those that it changes.
func TestP13_1W5(t *testing.T) {
	checkRows(t, Weak, []handRow{
		{"l", "te", "ll"}, {"r", "te", "ee"}, {"l", "ett", "lll"}, {"r", "ett", "eee"}, {"", "rtet", "reee"}, {"", "ltet", "llll"}, {"", "t", "."}, {"", "ttt", "..."}, {"", "ltt", "l.."}, {"", "ttr", "..r"}, {"", "nttn", "n..n"}, {"r", "ntten", "neeen"},
		{"", "ate", "r.n"}, {"", "aet", "rn."}, {"", "aette", "rn..n"}, {"", "atlte", "r.lll"}, {"", "aetre", "rn.re"}, {"", "aetrte", "rn.ree"},
		{"r", "etce", "ee.e"}, {"r", "ecte", "e.ee"}, {"r", "etste", "ee.ee"}, {"l", "etce", "ll.l"}, {"r", "tse", "..e"}, {"r", "teset", "eeeee"}, {"r", "tecett", "eeeeee"}, {"r", "ect", "e.."}, {"r", "t?e", ".?e"}, {"r", "t.e.t", "..e.."},
	})
}

func TestP13_1W6(t *testing.T) {
	checkRows(t, Weak, []handRow{
		{"", "s", "."}, {"", "t", "."}, {"", "c", "."}, {"", "sctsc", "....."}, {"", "tsct", "...."}, {"", "nsn", "n.n"}, {"", "ntn", "n.n"}, {"", "lsl", "l.l"}, {"", "rcr", "r.r"}, {"", "ltr", "l.r"}, {"", "asc", "r.."}, {"r", "ses", ".e."}, {"r", "cec", ".e."}, {"l", "ces", ".l."}, {"r", "esn", "e.n"}, {"", "<s)", "<.)"}, {"", "?c!", "?.!"}, {"", "wsbtgcx", "w.b.g.x"},
	})
}

func TestP13_1W7(t *testing.T) {
	checkRows(t, Weak, []handRow{
		{"", "le", "ll"}, {"", "re", "re"}, {"l", "e", "l"}, {"r", "e", "e"}, {"l", "eee", "lll"}, {"r", "eee", "eee"}, {"l", "ere", "lre"}, {"r", "ele", "ell"}, {"", "lre", "lre"}, {"", "rle", "rll"}, {"", "lee", "lll"}, {"", "lerele", "llrell"},
		{"", "l.e", "l.l"}, {"", "r.e", "r.e"}, {"", "lne", "lnl"}, {"", "rne", "rne"}, {"", "lbe", "lbl"}, {"", "rge", "rge"}, {"", "lxwe", "lxwl"}, {"", "l<e)e", "l<l)l"}, {"", "r([e))e", "r([e))e"}, {"", "lLRXYpe", "lLRXYpl"}, {"", "l?e", "l?l"}, {"", "r-!e", "r-!e"}, {"", "lse", "l.l"}, {"", "lce", "l.l"}, {"", "l.e.e", "l.l.l"}, {"", "r.e.e", "r.e.e"},
		{"l", "n.e", "n.l"}, {"r", "n.e", "n.e"}, {"l", "?e", "?l"}, {"r", "?e", "?e"}, {"l", "<e)", "<l)"}, {"r", "(e)", "(e)"}, {"l", "ne", "nl"}, {"r", "ne", "ne"},
		{"", "lese", "llll"}, {"", "lece", "llll"}, {"", "lte", "lll"}, {"", "lett", "llll"}, {"", "rese", "reee"}, {"", "rte", "ree"}, {"l", "tet.ece", "lll.lll"}, {"r", "tet.ece", "eee.eee"}, {"", "ltet.e", "llll.l"}, {"", "laele", "lrnll"},
	})
}

// Each value at each place between others and beside itself.
func TestP13_1EveryClass(t *testing.T) {
	for _, class := range everyClass() {
		for _, frame := range [][2]string{{"", ""}, {"", "m"}, {"", "e"}, {"", "t"}, {"e", ""}, {"m", ""}, {"e", "e"}, {"n", "n"}, {"t", "te"}, {"et", "t"}, {"a", "e"}, {"l", "e"}, {"r", "e"}, {"ec", "e"}, {"e", "ce"}, {"nc", "n"}, {"a", "ece"}, {"l", "met"}, {"<", "m)e"}, {"r", "mmte"}} {
			holds(t, slices.Concat(spell(frame[0]), []int{class}, spell(frame[1])))
			holds(t, slices.Concat(spell(frame[0]), []int{class, class}, spell(frame[1])))
		}
	}
	for _, class := range strangeClasses() {
		checkBoth(t, []int{class, api.BidiNSM, api.BidiNSM}, []int{class, api.BidiON, api.BidiON})
		checkBoth(t, []int{api.BidiR, api.BidiEN, class, api.BidiET, class, api.BidiNSM, api.BidiEN}, []int{api.BidiR, api.BidiEN, class, api.BidiON, class, api.BidiON, api.BidiEN})
		checkBoth(t, []int{api.BidiL, api.BidiEN, api.BidiCS, class, api.BidiES, api.BidiEN}, []int{api.BidiL, api.BidiL, api.BidiON, class, api.BidiON, api.BidiL})
		checkBoth(t, []int{api.BidiAL, class, api.BidiEN, class, class, api.BidiEN}, []int{api.BidiR, class, api.BidiAN, class, class, api.BidiAN})
	}
}

func TestP13_1ShortLists(t *testing.T) {
	check := func(classes []int) { holds(t, classes) }
	lists(3, everyClass(), check)
	lists(5, spell("lraestncm<."), check)
	lists(7, spell("aetcm"), check)
	lists(8, spell("lect"), check)
}

func TestP13_1LongLists(t *testing.T) {
	next := stream()
	busy := spell("eeeestcnmmlra.w<)?")
	for range 4000 {
		holds(t, some(next, next(100), busy))
		holds(t, some(next, next(100), everyClass()))
		holds(t, some(next, next(100), spell("esectncm")))
	}
}

func TestP13_2(t *testing.T) {
	want := map[int]int{1: 1, 2: 2, 3: 2, 4: 2, 7: 2}
	for class := -300; class <= 300; class++ {
		if got := Strong(class); got != want[class] {
			t.Errorf("%d: %d", class, got)
		}
	}
	for _, class := range strangeClasses() {
		if got := Strong(class); got != 0 {
			t.Errorf("%d: %d", class, got)
		}
	}
	if Strong(api.BidiL) != api.BidiL || Strong(api.BidiR) != api.BidiR || Strong(api.BidiAL) != api.BidiR || Strong(api.BidiEN) != api.BidiR || Strong(api.BidiAN) != api.BidiR || Strong(api.BidiON) != 0 || Strong(api.BidiNSM) != 0 {
		t.Error("the classes have other numbers")
	}
}

func TestP13_3(t *testing.T) {
	next := stream()
	for range 3000 {
		classes := some(next, next(400), everyClass())
		for _, sos := range append(bothStarts(), strangeClasses()...) {
			sound(t, classes, sos, Weak(classes, sos))
		}
	}
	// What is named as unchanged, with what changes at each side.
	for _, class := range spell("lrbgw.<([)n") {
		for _, frame := range []string{"e", "m", "a", "ec", "et", "nc"} {
			classes := slices.Concat(spell(frame), []int{class, class}, spell("mectn"))
			for _, sos := range bothStarts() {
				if got := Weak(classes, sos)[len(frame):]; got[0] != class || got[1] != class {
					t.Errorf("%d behind %s became %d", class, frame, got[0])
				}
			}
		}
	}
}

func TestP13_4Twice(t *testing.T) {
	next := stream()
	check := func(classes []int) {
		for _, sos := range append(bothStarts(), 0, api.BidiAL, api.BidiNSM, math.MinInt) {
			once := Weak(classes, sos)
			if twice := Weak(once, sos); !slices.Equal(once, twice) {
				t.Fatalf("%v behind %d: %v, then %v", classes, sos, once, twice)
			}
		}
	}
	lists(2, everyClass(), check)
	lists(4, spell("lraestncm<."), check)
	for range 1000 {
		check(some(next, next(200), everyClass()))
	}
}

// Each L and R parts what is before it and what is behind it.
func TestP13_4Parts(t *testing.T) {
	next := stream()
	check := func(classes []int) {
		for i, class := range classes {
			if class != api.BidiL && class != api.BidiR {
				continue
			}
			for _, sos := range append(bothStarts(), 0, api.BidiAL) {
				whole := Weak(classes, sos)
				if parts := slices.Concat(Weak(classes[:i], sos), []int{class}, Weak(classes[i+1:], class)); !slices.Equal(whole, parts) {
					t.Fatalf("%v behind %d: %v, but parted at %d %v", classes, sos, whole, i, parts)
				}
			}
		}
	}
	lists(5, spell("lraetcm."), check)
	for range 500 {
		check(some(next, next(60), everyClass()))
		check(some(next, next(60), spell("lreeesmttcn.a")))
	}
	for _, row := range []handRow{
		{"r", "tetrtet", "eeereee"}, {"r", "tetltet", "eeellll"}, {"l", "metrmet", "lllrree"}, {"r", "aecelece", "rnnnllll"}, {"l", "ecrce", "l.r.e"}, {"l", "etltmr", "lll..r"}, {"", "aerme", "rnrre"}, {"r", "<erm)me", "<err).e"},
	} {
		classes := spell(row.pattern)
		for _, sos := range row.starts() {
			if got := Weak(classes, sos); !slices.Equal(got, spell(row.want)) {
				t.Errorf("%s behind %d: %v, not %s", row.pattern, sos, got, row.want)
			}
		}
		check(classes)
	}
}

func TestR5Arguments(t *testing.T) {
	lists(5, spell("laetcm<"), func(classes []int) {
		// What lies behind the list stays as it is, too.
		room := append(slices.Clone(classes), api.BidiEN, api.BidiNSM, api.BidiET)
		given := room[:len(classes)]
		for _, sos := range bothStarts() {
			Weak(given, sos)
			W1(given, sos)
		}
		W4(given)
		W5(given)
		if !slices.Equal(room, append(slices.Clone(classes), api.BidiEN, api.BidiNSM, api.BidiET)) {
			t.Fatalf("%v became %v", classes, room)
		}
	})
}

func TestR5Results(t *testing.T) {
	lists(5, spell("raetcm<"), func(classes []int) {
		rules := []func(given []int) []int{
			func(given []int) []int { return Weak(given, api.BidiR) }, func(given []int) []int { return W1(given, api.BidiR) }, W4, W5,
		}
		for k, rule := range rules {
			given := append(slices.Clone(classes), 77)[:len(classes)]
			first, again := rule(given), rule(given)
			want := slices.Clone(first)
			spoil(given, 99)
			if !slices.Equal(first, want) {
				t.Fatalf("%v: the result %d shares memory with the argument", classes, k)
			}
			spoil(first, 98)
			if !slices.Equal(again, want) {
				t.Fatalf("%v: the results of two calls of %d share memory", classes, k)
			}
			if !slices.Equal(given[:cap(given)], slices.Repeat([]int{99}, cap(given))) {
				t.Fatalf("%v: the argument shares memory with the result %d", classes, k)
			}
		}
	})
}

// No call hangs on those before it.
func TestR4Calls(t *testing.T) {
	for range 3 {
		checkRows(t, Weak, []handRow{{"r", "aemtl", "rnn.l"}, {"r", "e", "e"}, {"l", "me", "ll"}, {"r", "metet", "reeee"}, {"", "", ""}, {"l", "t", "."}, {"r", "ce", ".e"}})
	}
}

// Lists of the greatest length.
func TestR8Long(t *testing.T) {
	half := most / 2
	lots := func(n int, pattern string) []int { return slices.Repeat(spell(pattern), n) }
	for _, c := range []struct {
		start         string
		classes, want []int
	}{
		{"l", lots(most, "m"), lots(most, "l")}, {"r", lots(most, "m"), lots(most, "r")}, {"r", lots(most, "e"), lots(most, "e")}, {"l", lots(most, "e"), lots(most, "l")}, {"", lots(most, "a"), lots(most, "r")}, {"", lots(most, "s"), lots(most, ".")}, {"", lots(most, "t"), lots(most, ".")}, {"", lots(most, "?"), lots(most, "?")},
		{"r", append(lots(most-1, "t"), spell("e")...), lots(most, "e")}, {"l", append(lots(most-1, "t"), spell("e")...), lots(most, "l")}, {"r", append(spell("e"), lots(most-1, "t")...), lots(most, "e")}, {"", append(spell("a"), lots(most-1, "e")...), append(spell("r"), lots(most-1, "n")...)},
		{"r", lots(half, "ec"), append(lots(most-1, "e"), spell(".")...)}, {"r", lots(half, "se"), append(spell("."), lots(most-1, "e")...)}, {"", lots(half, "nc"), append(lots(most-1, "n"), spell(".")...)}, {"l", lots(half, "et"), lots(most, "l")}, {"", lots(half, "re"), lots(half, "re")}, {"", lots(half, "le"), lots(most, "l")}, {"", lots(half, "ae"), lots(half, "rn")}, {"", lots(half, "<m"), lots(half, "<.")},
		{"", slices.Concat(spell("a"), lots(most-2, "."), spell("e")), slices.Concat(spell("r"), lots(most-2, "."), spell("n"))}, {"r", slices.Concat(spell("l"), lots(most-2, "w"), spell("e")), slices.Concat(spell("l"), lots(most-2, "w"), spell("l"))},
	} {
		for _, sos := range (handRow{start: c.start}).starts() {
			if got := Weak(c.classes, sos); !slices.Equal(got, c.want) {
				t.Errorf("%v .. behind %d: %v ..", c.classes[:4], sos, got[:4])
			}
		}
	}
}

func TestExamples(t *testing.T) {
	const L, R, AL, EN, ET, AN, CS, NSM, ON, LRI = api.BidiL, api.BidiR, api.BidiAL, api.BidiEN, api.BidiET, api.BidiAN, api.BidiCS, api.BidiNSM, api.BidiON, api.BidiLRI
	for _, c := range []struct{ got, want []int }{
		{Weak([]int{AL, EN}, L), []int{R, AN}}, {Weak([]int{L, EN, CS, EN}, R), []int{L, L, L, L}}, {Weak([]int{R, ET, EN, ET}, L), []int{R, EN, EN, EN}}, {Weak([]int{NSM, ET}, R), []int{R, ON}},
		{W1([]int{LRI, NSM}, L), []int{LRI, ON}}, {W4([]int{EN, CS, AN}), []int{EN, CS, AN}}, {Weak([]int{EN}, L), []int{L}}, {Weak([]int{EN}, R), []int{EN}},
	} {
		if !slices.Equal(c.got, c.want) {
			t.Errorf("%v, not %v", c.got, c.want)
		}
	}
}
