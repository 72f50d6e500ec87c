package explicit

import (
	"math"
	"slices"
	"testing"

	"typecase/api"
)

// handRow is a pattern with its levels and classes at a base, written by hand.
type handRow struct {
	base                   int
	pattern, levels, shown string
}

func checkRows(t *testing.T, rows []handRow) {
	t.Helper()
	for _, row := range rows {
		classes := spell(row.pattern)
		levels, shown := Levels(classes, row.base)
		if !slices.Equal(levels, digits(row.levels)) || !slices.Equal(shown, spell(row.shown)) {
			t.Errorf("%s at %d: %v and %v, not %s and %s", row.pattern, row.base, levels, shown, row.levels, row.shown)
		}
		holds(t, classes)
	}
}

func TestP11_1Embeddings(t *testing.T) {
	checkRows(t, []handRow{
		{0, "", "", ""}, {1, "", "", ""}, {0, "l", "0", "l"}, {1, "l", "1", "l"}, {0, "r", "0", "r"}, {1, "r", "1", "r"},
		{0, "lLlpl", "00220", "lxlxl"}, {1, "lLlpl", "11221", "lxlxl"}, {0, "lRlpl", "00110", "lxlxl"}, {1, "lRlpl", "11331", "lxlxl"},
		{0, "rXrpr", "00220", "rxlxr"}, {1, "rXrpr", "11221", "rxlxr"}, {0, "lYlpl", "00110", "lxrxl"}, {1, "lYlpl", "11331", "lxrxl"},
		{0, "LlLlLl", "022446", "xlxlxl"}, {0, "RlRlRl", "011335", "xlxlxl"}, {0, "RlLlRl", "011223", "xlxlxl"}, {0, "LlRlLl", "022334", "xlxlxl"}, {1, "LlRlLlRl", "12233445", "xlxlxlxl"}, {1, "RlLlRlLl", "13344556", "xlxlxlxl"},
		{0, "XrXrXr", "022446", "xlxlxl"}, {0, "YlYlYl", "011335", "xrxrxr"}, {1, "XrYlXrYl", "12233445", "xlxrxlxr"}, {0, "YlXrYlXr", "01122334", "xrxlxrxl"},
		{0, "RLRl", "0003", "xxxl"}, {0, "RLRppl", "000001", "xxxxxl"}, {0, "RLRlppl", "0003331", "xxxlxxl"}, {0, "RlLlplpl", "01122110", "xlxlxlxl"},
	})
}

func TestP11_1Ends(t *testing.T) {
	checkRows(t, []handRow{
		{0, "p", "0", "x"}, {1, "p", "1", "x"}, {0, "pl", "00", "xl"}, {1, "ppl", "111", "xxl"}, {0, "RlppplRl", "01111001", "xlxxxlxl"}, {1, "ppLlpplLl", "111222112", "xxxlxxlxl"},
		{0, "R(pl)l", "011311", "x(xl)l"}, {0, "R(pppl)lpl", "0111131110", "x(xxxl)lxl"}, {0, "R(l)pl", "013110", "x(l)xl"}, {0, "(p)l", "0000", "(x)l"}, {0, "R[pr)l", "011311", "x[xr)l"}, {0, "Y<pl)l", "011211", "xrxlrr"},
		{0, "(Rlpl)l", "0033100", "(xlxl)l"}, {0, "R(Rlpppl)lpl", "011555531110", "x(xlxxxl)lxl"}, {0, "(l)pl", "01000", "(l)xl"}, {0, "RL(l)plpl", "002322110", "xx(l)xlxl"},
	})
}

func TestP11_1Isolates(t *testing.T) {
	checkRows(t, []handRow{
		{0, "l<l)l", "00200", "l<l)l"}, {1, "l<l)l", "11211", "l<l)l"}, {0, "l(l)l", "00100", "l(l)l"}, {1, "l(l)l", "11311", "l(l)l"}, {0, "<", "0", "<"}, {1, "(", "1", "("}, {0, "<l", "02", "<l"}, {0, "()", "00", "()"},
		{0, "<l<l<l", "022446", "<l<l<l"}, {0, "(l(l(l", "011335", "(l(l(l"}, {1, "<l(l<l", "122334", "<l(l<l"}, {0, "(l<l)l)l", "01121100", "(l<l)l)l"}, {0, "(<)l)l", "011100", "(<)l)l"},
		{0, ")l", "00", ")l"}, {1, "))l", "111", "))l"}, {0, "R)l", "011", "x)l"}, {0, "Y)l", "011", "xrr"}, {0, "Y))pl", "01110", "xrrxl"}, {0, "(l))l", "01000", "(l))l"}, {0, "R(l))lpl", "01311110", "x(l))lxl"}, {0, ")(l", "001", ")(l"},
		{0, "(RlXlYl)l", "003344500", "(xlxlxr)l"}, {0, "(RLRLl)l", "00000600", "(xxxxl)l"}, {0, "R(Ll)lpl", "01141110", "x(xl)lxl"}, {1, "<Y(Xl)l)l", "113363311", "<xrxlrr)l"}, {0, "(R<Ll)l)l", "003363300", "(x<xl)l)l"},
	})
}

func TestP11_1Overrides(t *testing.T) {
	checkRows(t, []handRow{
		{0, "YlLlpl", "011221", "xrxlxr"}, {0, "XrRrpr", "022332", "xlxrxl"}, {0, "XrYlXrplpr", "0223344332", "xlxrxlxrxl"}, {0, "YlYlplpl", "01133110", "xrxrxrxl"},
		{0, "Y(l)lpl", "0131110", "xrlrrxl"}, {0, "X<r)r", "02422", "xlrll"}, {0, "Y[l)l", "01211", "xrlrr"}, {0, "X[r)r", "02322", "xlrll"}, {0, "(Yl)l", "00300", "(xr)l"}, {0, "X(Yl)r", "022522", "xlxrll"}, {0, "Y<Xr)l)l", "01141111", "xrxlrrrr"},
		{0, "Ylaen.wmst(<[)", "01111111111344", "xrrrrrrrrrr<[)"},
		{0, "Y?!-p?", "011110", "xrrrx?"}, {1, "X?!-p?", "122221", "xlllx?"}, {0, "R?!-p?", "011110", "x?!-x?"}, {0, "?!-", "000", "?!-"}, {1, "[?r)!", "13311", "[?r)!"}, {0, "(-)-", "0100", "(-)-"}, {0, "?x-", "000", "?x-"},
	})
}

func TestP11_1Removed(t *testing.T) {
	checkRows(t, []handRow{
		{0, "x", "0", "x"}, {1, "x", "1", "x"}, {0, "xxl", "000", "xxl"}, {1, "xl", "11", "xl"}, {1, "Rxl", "113", "xxl"}, {1, "LRpxl", "11112", "xxxxl"}, {0, "lxxr", "0000", "lxxr"},
		{0, "Rlbxl", "01000", "xlbxl"}, {1, "LlbRl", "12113", "xlbxl"}, {1, "Llbpxl", "121111", "xlbxxl"}, {0, "Rlpxl", "01110", "xlxxl"}, {0, "RlpLl", "01112", "xlxxl"}, {0, "RlxLxl", "011112", "xlxxxl"},
		{0, "l(xl)x", "000100", "l(xl)x"}, {0, "(lx)", "0110", "(lx)"}, {0, "(l)xl", "01000", "(l)xl"}, {0, "(xx)", "0000", "(xx)"}, {0, "(lRx)", "01110", "(lxx)"}, {0, "YxlxRxlxpxl", "00111133331", "xxrxxxlxxxr"},
	})
}

func TestP11_1Separators(t *testing.T) {
	checkRows(t, []handRow{
		{0, "b", "0", "b"}, {1, "b", "1", "b"}, {0, "lbl", "000", "lbl"}, {0, "bb", "00", "bb"}, {0, "Yb", "00", "xb"}, {1, "Xb", "11", "xb"}, {0, "YLlbl", "00200", "xxlbl"}, {0, "Ylbl", "0100", "xrbl"}, {1, "XrbrXr", "121112", "xlbrxl"},
		{0, "(b)l", "0000", "(b)l"}, {0, "R(lb)l", "013000", "x(lb)l"}, {1, "LlbplLl", "1211112", "xlbxlxl"}, {0, "Y(b)l", "01000", "xrb)l"}, {0, "(lbl)l", "010000", "(lbl)l"}, {0, "(<[lb)))l", "012400000", "(<[lb)))l"}, {0, "RlbRlbRl", "01001001", "xlbxlbxl"}, {0, "R(Rlbp)l", "01150000", "x(xlbx)l"},
	})
}

func TestP11_1FirstStrong(t *testing.T) {
	checkRows(t, []handRow{
		{0, "l[l)l", "00200", "l[l)l"}, {1, "l[l)l", "11211", "l[l)l"}, {0, "l[r)l", "00100", "l[r)l"}, {1, "l[r)l", "11311", "l[r)l"}, {0, "l[a)l", "00100", "l[a)l"}, {1, "l[a)l", "11311", "l[a)l"},
		{0, "l[.)l", "00200", "l[.)l"}, {1, "l[.)l", "11211", "l[.)l"}, {0, "[e)", "020", "[e)"}, {0, "[n)", "020", "[n)"}, {0, "[)", "00", "[)"}, {0, "[", "0", "["}, {0, "[)r", "000", "[)r"}, {0, "[.)r", "0200", "[.)r"},
		{0, "[el)", "0220", "[el)"}, {0, "[er)", "0110", "[er)"}, {0, "[rl)", "0110", "[rl)"}, {0, "[lr)", "0220", "[lr)"}, {0, "[Rl)", "0030", "[xl)"}, {0, "[Yl)", "0030", "[xr)"}, {0, "[Lr)", "0020", "[xr)"}, {0, "[?r)", "0110", "[?r)"},
		{0, "[l", "02", "[l"}, {0, "[r", "01", "[r"}, {0, "[a", "01", "[a"}, {0, "[.", "02", "[."}, {1, "[r", "13", "[r"}, {1, "[.", "12", "[."},
		{0, "[brl", "0000", "[brl"}, {0, "[lbr", "0200", "[lbr"}, {0, "[.br)", "02000", "[.br)"}, {0, "[rbl)", "01000", "[rbl)"}, {1, "[b", "11", "[b"}, {0, "[)[r)", "00010", "[)[r)"},
		{0, "[(r)l)", "023220", "[(r)l)"}, {0, "[<l)r)", "012110", "[<l)r)"}, {0, "[[r).)", "023220", "[[r).)"}, {0, "[[l)a)", "012110", "[[l)a)"}, {0, "[[[r)))", "0245420", "[[[r)))"}, {0, "[(r)", "0232", "[(r)"}, {0, "[(r)l", "02322", "[(r)l"}, {0, "[<l)r", "01211", "[<l)r"},
		{0, "[(r", "023", "[(r"}, {0, "[<r", "024", "[<r"}, {0, "[l(r", "0223", "[l(r"}, {0, "[r(l", "0113", "[r(l"}, {0, "[(l)(r", "023223", "[(l)(r"}, {0, "[[r", "023", "[[r"}, {1, "[<r)(l)", "1242232", "[<r)(l)"},
		{0, "([l)r)", "012110", "([l)r)"}, {0, "([r)l)", "013110", "([r)l)"}, {1, "<[r)[l))", "12322421", "<[r)[l))"}, {0, "(<[a)l)r)", "012322110", "(<[a)l)r)"}, {0, "R[r)pl", "013110", "x[r)xl"},
	})
}

// Each class, and each value that is none, where nothing is open, in an embedding, and under overrides.
func TestP11_1EveryClass(t *testing.T) {
	for _, class := range everyClass() {
		for _, c := range []struct {
			before          string
			level, override int
		}{
			{"", 0, 0}, {"R", 1, 0}, {"L", 2, 0}, {"Y", 1, api.BidiR}, {"X", 2, api.BidiL}, {"RX", 2, api.BidiL}, {"YL", 2, 0}, {"XY", 3, api.BidiR}, {"X(", 3, 0}, {"X()", 2, api.BidiL}, {"Y<Xl)", 1, api.BidiR}, {"YlXlp", 1, api.BidiR},
		} {
			classes := append(spell(c.before), class)
			at := len(classes) - 1
			before, _ := Levels(classes[:at], 0)
			level, shown := c.level, class
			switch {
			case class == api.BidiB:
				level = 0
			case removes(class):
				level, shown = 0, api.BidiBN
				if at > 0 {
					level = before[at-1]
				}
			case class == api.BidiPDI && c.before == "X(":
				level, shown = 2, api.BidiL
			case c.override != 0:
				shown = c.override
			}
			levels, all := Levels(classes, 0)
			if levels[at] != level || all[at] != shown {
				t.Errorf("%s and %d: %d and %d, not %d and %d", c.before, class, levels[at], all[at], level, shown)
			}
			holds(t, classes)
		}
	}
}

// All short lists of what does something to the state, and shorter ones of all classes.
func TestP11_1ShortLists(t *testing.T) {
	check := func(classes []int) { holds(t, classes) }
	lists(6, spell("RXp()bl"), check)
	lists(5, spell("LYp<[)ra"), check)
	lists(3, everyClass(), check)
}

func TestP11_1LongLists(t *testing.T) {
	next := stream()
	busy := spell("LRXYp<([))))ppbxlra")
	for range 4000 {
		holds(t, some(next, next(60), append(everyClass(), busy...)))
		holds(t, some(next, next(200), busy))
	}
}

// Every level from the base to the highest one is reached, one by one, and none above it.
func TestP11_1EveryLevel(t *testing.T) {
	for base := range 2 {
		for top := base; top <= highest; top++ {
			for name, classes := range climbs(base, top) {
				levels, shown := Levels(classes, base)
				if levels[len(levels)-1] != top || Depth(classes, base) != top || shown[len(shown)-1] == api.BidiBN {
					t.Errorf("%s from %d: %d, not %d", name, base, levels[len(levels)-1], top)
				}
				holds(t, classes)
			}
		}
	}
}

// Embeddings and isolates that all go the same way skip every other level.
func TestP11_1EveryOtherLevel(t *testing.T) {
	for _, pattern := range []string{"L", "R", "X", "Y", "<", "(", "[l", "[r"} {
		for base := range 2 {
			level := base
			var classes []int
			for range 70 {
				next := nextLevel(level, pattern == "R" || pattern == "Y" || pattern == "(" || pattern == "[r")
				if next <= 125 {
					level = next
				}
				classes = append(classes, spell(pattern+"e")...)
				if levels, _ := Levels(classes, base); levels[len(levels)-1] != level {
					t.Fatalf("%s from %d: %d, not %d", pattern, base, levels[len(levels)-1], level)
				}
			}
			holds(t, classes)
		}
	}
}

// highRow is a pattern, the level at which it begins, the levels of its characters, all told by how far they are below the highest one, and its classes, or nothing where an override turns them.
type highRow struct {
	below                 int
	pattern, under, shown string
}

// What overflows, at the levels near the highest one, whatever has led there: nothing of that is closed.
func TestP11_1Overflow(t *testing.T) {
	for _, row := range []highRow{
		{0, "Ll", "00", "xl"}, {0, "Rl", "00", "xl"}, {0, "Xr", "00", "xr"}, {0, "Yl", "00", "xl"}, {0, "RlLlXrYl", "00000000", "xlxlxrxl"}, {0, "Llpl", "0000", "xlxl"}, {0, "YlXlpplLlpl", "00000000000", "xlxlxxlxlxl"},
		{0, "(l)l", "0000", "(l)l"}, {0, "<r)l", "0000", "<r)l"}, {0, "[l)l", "0000", "[l)l"}, {0, "[r)l", "0000", "[r)l"}, {0, "<(l", "000", "<(l"}, {0, "(<l))l", "000000", "(<l))l"}, {0, "(pl)l", "00000", "(xl)l"}, {0, "(YlLlppp)l", "0000000000", "(xlxlxxx)l"},
		{1, "Rl", "10", "xl"}, {1, "Yl", "10", "xr"}, {1, "(l)l", "1011", "(l)l"}, {1, "[r)l", "1011", "[r)l"}, {1, "[a)l", "1011", "[a)l"}, {1, "(l", "10", "(l"},
		{1, "Ll", "11", "xl"}, {1, "Xr", "11", "xr"}, {1, "<l)l", "1111", "<l)l"}, {1, "[l)l", "1111", "[l)l"}, {1, "[.)l", "1111", "[.)l"}, {1, "<l", "11", "<l"}, {1, "[", "1", "["},
		{1, "LlRl", "1111", "xlxl"}, {1, "LlYl", "1111", "xlxl"}, {1, "LlplRl", "111110", "xlxlxl"}, {1, "LRlplRlpplRl", "111111111110", "xxlxlxlxxlxl"}, {1, "XYrppYl", "1111110", "xxrxxxr"}, {1, "RlLlpplRl", "100000110", "xlxlxxlxl"},
		{1, "Ll(l)l", "111111", "xl(l)l"}, {1, "L(l)pRl", "1111110", "x(l)xxl"}, {1, "L<)Rl", "11111", "x<)xl"}, {1, "L[r)[l)p[r)l", "111111111011", "x[r)[l)x[r)l"},
		{1, "<Rlpl)Rl", "11111110", "<xlxl)xl"}, {1, "<LR)Rl", "111110", "<xx)xl"}, {1, "<LR)(l)", "1111101", "<xx)(l)"}, {1, "<Rpp)Rl", "1111110", "<xxx)xl"}, {1, "<<l)l)(l)", "111111101", "<<l)l)(l)"}, {1, "<(l))(l)", "11111101", "<(l))(l)"}, {1, "<l(l)Rl", "1111111", "<l(l)xl"}, {1, "<l)Yl", "11110", "<l)xr"}, {1, "<[r)[l))[r)", "11111111101", "<[r)[l))[r)"},
		{2, "(lLlRl)Rl", "200000220", "(lxlxl)xl"}, {2, "<lLlRl)Ll", "211111221", "<lxlxl)xl"}, {2, "(lLl)(l)", "20002202", "(lxl)(l)"}, {2, "(L<p(R)l)l)Rl", "2200000000220", "(x<x(x)l)l)xl"}, {2, "(l<l)l)Rl", "200000220", "(l<l)l)xl"}, {2, "<LYl)Ll", "2221221", "<xxl)xl"},
	} {
		for base := range 2 {
			for name, classes := range climbs(base, highest-row.below) {
				here := row
				if name == "overrides" || name == "mixed" {
					here.shown = ""
				}
				checkHigh(t, name, here, classes, base)
			}
		}
	}
}

// checkHigh checks the row behind classes that lead up to its level.
func checkHigh(t *testing.T, name string, row highRow, classes []int, base int) {
	t.Helper()
	at := len(classes)
	classes = append(classes, spell(row.pattern)...)
	levels, shown := Levels(classes, base)
	want := digits(row.under)
	for i, under := range want {
		want[i] = highest - under
	}
	if !slices.Equal(levels[at:], want) {
		t.Errorf("%s from %d, then %s: %v, not %v", name, base, row.pattern, levels[at:], want)
	}
	if row.shown != "" && !slices.Equal(shown[at:], spell(row.shown)) {
		t.Errorf("%s from %d, then %s: %v, not %s", name, base, row.pattern, shown[at:], row.shown)
	}
	holds(t, classes)
}

// What closes the step that has led to the highest levels, behind what overflows.
func TestP11_1OverflowEnds(t *testing.T) {
	embeddings, isolates := []string{"embeddings", "overrides"}, []string{"isolates", "first strong isolates", "first Arabic isolates"}
	for _, c := range []struct {
		names []string
		rows  []highRow
	}{
		{embeddings, []highRow{
			{0, "pl", "01", ""}, {0, "Llplpl", "000001", ""}, {0, "LRpppl", "000001", ""}, {0, "(p)pl", "00001", ""}, {0, "(R)pl", "00001", ""}, {0, "L(p))ppl", "00000001", ""}, {0, ")l", "00", ""}, {0, "L))l", "0000", ""}, {1, "<R)pl", "11112", ""}, {1, "LRpppl", "111112", ""}, {2, "<LYl)pl", "2221223", ""}, {2, "(l)pl", "20223", ""}, {2, "<p)pl", "22223", ""},
		}},
		{isolates, []highRow{
			{0, ")l", "11", ""}, {0, "Ll)l", "0011", ""}, {0, "Ll)Rl", "00110", ""}, {0, "(l))l", "00011", ""}, {0, "<L))Rl", "000110", ""}, {0, "ppl", "000", ""}, {0, "Lpppl", "00000", ""}, {0, "(L)p)pRl", "00001110", ""}, {1, "L(l))pRl", "11112220", ""}, {1, "LR)))l", "112344", ""},
		}},
	} {
		for _, row := range c.rows {
			for base := range 2 {
				for _, name := range c.names {
					checkHigh(t, name, row, climbs(base, highest-row.below)[name], base)
				}
			}
		}
	}
}

// After a B all is as at first, whatever was open and whatever overflowed.
func TestP11_1SeparatorAfterOverflow(t *testing.T) {
	for base := range 2 {
		even, odd := nextLevel(base, false), nextLevel(base, true)
		for _, top := range []int{highest, highest - 1, highest - 2, 5} {
			for name, classes := range climbs(base, top) {
				at := len(classes)
				classes = append(classes, spell("LY<R(lbxeRe)pe<e))pe")...)
				levels, shown := Levels(classes, base)
				if want := []int{base, base, base, base, odd, odd, odd, base, base, even, base, base, base, base}; !slices.Equal(levels[at+6:], want) {
					t.Errorf("%s from %d to %d: %v behind it, not %v", name, base, top, levels[at+6:], want)
				}
				if !slices.Equal(shown[at+6:], spell("bxexe)xe<e))xe")) {
					t.Errorf("%s from %d to %d: %v behind it", name, base, top, shown[at+6:])
				}
				holds(t, classes)
			}
		}
	}
}

// Short lists of what does something to the state, at the levels near the highest one.
func TestP11_1ShortListsHigh(t *testing.T) {
	for _, top := range []int{highest - 2, highest - 1, highest} {
		for _, classes := range climbs(0, top) {
			at := len(classes)
			lists(3, spell("LRYp<([)bl"), func(list []int) { holds(t, append(classes[:at:at], list...)) })
		}
	}
}

func TestP11_1LongListsHigh(t *testing.T) {
	next := stream()
	busy := spell("LRXYp<([))ppxlra")
	for _, top := range []int{highest - 4, highest - 1, highest} {
		for base := range 2 {
			for _, classes := range climbs(base, top) {
				at := len(classes)
				for range 30 {
					holds(t, append(classes[:at:at], some(next, next(80), busy)...))
				}
			}
		}
	}
}

func TestP11_2ByHand(t *testing.T) {
	for _, c := range []struct {
		base    int
		pattern string
		depth   int
	}{
		{0, "", 0}, {1, "", 1}, {0, "l", 0}, {1, "l", 1}, {0, "b", 0}, {1, "b", 1}, {0, "x", 0}, {1, "p", 1}, {0, ")", 0},
		{0, "R", 0}, {0, "LRLRLR", 0}, {1, "LRLR", 1}, {0, "LRp", 0}, {0, "(", 0}, {1, "<)", 1}, {0, "Rl", 1}, {0, "Ll", 2}, {1, "Ll", 2}, {1, "Rl", 3}, {0, "(r", 1}, {0, "<r", 2}, {1, "(r", 3}, {1, "[r", 3}, {1, "[l", 2}, {0, "R)", 1}, {0, "R(", 1}, {0, "R(p", 1}, {0, "R(x", 1},
		{0, "lRlLlppl", 2}, {0, "LRLlppp(r)l", 4}, {0, "Rlb", 1}, {0, "bRl", 1}, {0, "RLRbl", 0}, {1, "l(r)l", 3}, {0, "Rm", 1}, {0, "R?", 1}, {0, "Y-", 1},
	} {
		if got := Depth(spell(c.pattern), c.base); got != c.depth {
			t.Errorf("%s at %d: %d, not %d", c.pattern, c.base, got, c.depth)
		}
	}
	if Depth([]int{}, 0) != 0 || Depth([]int{}, 1) != 1 {
		t.Error("no classes have a depth of their own")
	}
}

func TestP11_3Removed(t *testing.T) {
	for _, class := range removedClasses() {
		if !Removed(class) {
			t.Errorf("%d is not removed", class)
		}
	}
	for class := -300; class <= 300; class++ {
		if Removed(class) != slices.Contains([]int{10, 15, 16, 17, 18, 19}, class) {
			t.Errorf("%d: %t", class, Removed(class))
		}
	}
	for _, class := range strangeClasses() {
		if Removed(class) {
			t.Errorf("%d is removed", class)
		}
	}
}

// idle returns the classes that P11.4 does not name, and values that are no classes.
func idle() []int {
	return slices.DeleteFunc(everyClass(), func(class int) bool {
		return class >= 15 && class <= 23 || class == api.BidiBN || class == api.BidiB
	})
}

func TestP11_4(t *testing.T) {
	next := stream()
	check := func(classes []int) {
		for base := range 2 {
			gives(t, classes, base, slices.Repeat([]int{base}, len(classes)), classes)
		}
	}
	lists(2, idle(), check)
	check(slices.Repeat(idle(), 50))
	for range 500 {
		check(some(next, next(100), idle()))
	}
}

func TestP11_5EveryClass(t *testing.T) {
	next := stream()
	for range 3000 {
		classes := some(next, next(300), everyClass())
		for base := range 2 {
			levels, shown := Levels(classes, base)
			sound(t, classes, base, levels, shown)
		}
	}
	classes := slices.Repeat(slices.DeleteFunc(everyClass(), parts), 200)
	for base := range 2 {
		levels, shown := Levels(classes, base)
		sound(t, classes, base, levels, shown)
		if Depth(classes, base) != 125 {
			t.Error("the list does not go to the highest level, but to", Depth(classes, base))
		}
	}
}

// outside returns the elements of the list but those from i up to m.
func outside(list []int, i, m int) []int {
	return append(slices.Clone(list[:i]), list[m:]...)
}

// sameOutside checks that other contents of the isolate from i to m change nothing outside.
func sameOutside(t *testing.T, classes []int, i, m int, content []int) {
	t.Helper()
	other := slices.Concat(classes[:i+1], content, classes[m:])
	for base := range 2 {
		levels, shown := Levels(classes, base)
		otherLevels, otherShown := Levels(other, base)
		end := i + 1 + len(content)
		if !slices.Equal(outside(levels, i+1, m), outside(otherLevels, i+1, end)) || !slices.Equal(outside(shown, i+1, m), outside(otherShown, i+1, end)) {
			t.Fatalf("%v and %v differ outside %d at %d: %v and %v", classes, other, i, base, levels, otherLevels)
		}
	}
}

// What an isolate contains changes nothing outside, also where it overflows or something in it does.
func TestP11_6(t *testing.T) {
	next := stream()
	busy := spell("(<))))LRXYppplra[b.x")
	put := slices.DeleteFunc(everyClass(), parts)
	changed := 0
	for round := range 4000 {
		classes := some(next, next(30), busy)
		if round%2 == 0 {
			classes = append(climb(0, highest-next(4), mixed), classes...)
		}
		for i, m := range matchByChapter(classes) {
			if m < i || classes[i] == api.BidiFSI || slices.ContainsFunc(classes[i+1:m], parts) {
				continue
			}
			changed++
			sameOutside(t, classes, i, m, nil)
			sameOutside(t, classes, i, m, some(next, 1+next(20), put))
			sameOutside(t, classes, i, m, some(next, 1+next(5), spell("LRXYpx")))
		}
	}
	if changed < 3000 {
		t.Errorf("there were but %d isolates", changed)
	}
}

// Each class and each pair of classes that may stand in an isolate, where something outside is open that they could close.
func TestP11_6EveryClass(t *testing.T) {
	for _, pattern := range []string{"(e)e", "R(e)epe", "Y<e)epe", "L(R<e)epe)epe", "RL[r(e)a)epe"} {
		classes := spell(pattern)
		at := slices.Index(classes, api.BidiEN)
		lists(2, slices.DeleteFunc(everyClass(), parts), func(content []int) { sameOutside(t, classes, at-1, at+1, content) })
	}
}

func TestR5Arguments(t *testing.T) {
	lists(4, spell("LYp([)bxl"), func(classes []int) {
		// What lies behind the classes stays as it is, too.
		room := append(slices.Clone(classes), 77, 78, 79)
		given := room[:len(classes)]
		for base := range 2 {
			Levels(given, base)
			Depth(given, base)
		}
		if !slices.Equal(room, append(slices.Clone(classes), 77, 78, 79)) {
			t.Fatalf("%v became %v", classes, room)
		}
	})
}

func TestR5Results(t *testing.T) {
	lists(4, spell("LYp([)bxl"), func(classes []int) {
		wantLevels, wantShown := byChapter(classes, 1)
		given := slices.Clone(classes)
		levels, shown := Levels(given, 1)
		againLevels, againShown := Levels(given, 1)
		spoil(given, 99)
		if !slices.Equal(levels, wantLevels) || !slices.Equal(shown, wantShown) {
			t.Fatalf("%v: results hang on the argument: %v and %v", classes, levels, shown)
		}
		spoil(levels, 77)
		if !slices.Equal(shown, wantShown) {
			t.Fatalf("%v: the two lists share memory: %v", classes, shown)
		}
		spoil(shown, 88)
		if !slices.Equal(againLevels, wantLevels) || !slices.Equal(againShown, wantShown) || !slices.Equal(given[:cap(given)], slices.Repeat([]int{99}, cap(given))) || !slices.Equal(levels[:cap(levels)], slices.Repeat([]int{77}, cap(levels))) {
			t.Fatalf("%v: the results of two calls share memory", classes)
		}
	})
}

// No call hangs on those before it.
func TestR4Calls(t *testing.T) {
	deep := append(climb(0, highest, mixed), spell("LL<<(l")...)
	levels, shown := Levels(deep, 0)
	for range 3 {
		gives(t, spell("l)pl"), 0, digits("0000"), spell("l)xl"))
		gives(t, deep, 0, levels, shown)
	}
}

// Lists of the greatest length, in which isolates and embeddings lie in one another as deep as can be.
func TestR8Long(t *testing.T) {
	half := most / 2
	lots := func(n int, pattern string) []int { return slices.Repeat(spell(pattern), n) }
	for _, opening := range []string{"<", "["} {
		levels, _ := Levels(append(lots(half, opening), lots(half, ")")...), 0)
		for i, level := range levels {
			if want := min(2*min(i, most-1-i), highest-1); level != want {
				t.Fatalf("%s: %d at %d, not %d", opening, level, i, want)
			}
		}
	}
	for _, c := range []struct {
		classes []int
		depth   int
	}{
		{lots(most, "["), 124}, {lots(half, "[r"), 125}, {append(lots(most-1, "L"), api.BidiL), 124}, {append(lots(most-1, "R"), api.BidiL), 125}, {append(lots(most-1, "R"), api.BidiPDF), 0}, {lots(most, "p"), 0}, {lots(most, ")"), 0}, {lots(most, "b"), 0}, {lots(half, "Rb"), 0}, {lots(most/4, "[rb)"), 1}, {lots(most/4, "(Rl)"), 3}, {lots(most, "l"), 0}, {lots(most, "x"), 0}, {slices.Concat(lots(half-1, "R"), lots(half, "p"), lots(1, "l")), 0}, {slices.Concat(lots(half-1, "("), lots(half-1, ")"), spell("Rl")), 125},
	} {
		levels, shown := Levels(c.classes, 0)
		sound(t, c.classes, 0, levels, shown)
		if got := Depth(c.classes, 0); got != c.depth {
			t.Errorf("%v ..: %d, not %d", c.classes[:8], got, c.depth)
		}
	}
	closed := slices.Concat(lots(half-1, "R"), lots(half-1, "p"), spell("Yl"))
	if levels, shown := Levels(closed, 0); levels[most-1] != 1 || shown[most-1] != api.BidiR {
		t.Error("what overflowed was not closed again:", levels[most-1], shown[most-1])
	}
}

// For other bases the chapter promises nothing, but the calls still end and do not panic.
func TestOtherBases(t *testing.T) {
	next := stream()
	busy := spell("LRXYp<([))ppbxlra")
	for _, base := range []int{math.MinInt, math.MinInt + 1, -3, -2, -1, 2, 3, 123, 124, 125, 126, 127, math.MaxInt - 1, math.MaxInt} {
		for range 200 {
			classes := some(next, next(60), busy)
			levels, shown := Levels(classes, base)
			if len(levels) != len(classes) || len(shown) != len(classes) || Depth(classes, base) < base {
				t.Errorf("%v at %d: %v and %v", classes, base, levels, shown)
			}
		}
	}
}

func TestExamples(t *testing.T) {
	for _, c := range []struct {
		classes, levels, shown []int
		base                   int
	}{
		{[]int{api.BidiL, api.BidiRLE, api.BidiR, api.BidiPDF, api.BidiL}, []int{0, 0, 1, 1, 0}, []int{api.BidiL, api.BidiBN, api.BidiR, api.BidiBN, api.BidiL}, 0},
		{[]int{api.BidiR, api.BidiRLI, api.BidiL, api.BidiPDI}, []int{1, 1, 3, 1}, []int{api.BidiR, api.BidiRLI, api.BidiL, api.BidiPDI}, 1},
		{[]int{api.BidiRLO, api.BidiL, api.BidiEN, api.BidiPDF}, []int{0, 1, 1, 1}, []int{api.BidiBN, api.BidiR, api.BidiR, api.BidiBN}, 0},
		{[]int{api.BidiFSI, api.BidiL, api.BidiPDI}, []int{0, 2, 0}, []int{api.BidiFSI, api.BidiL, api.BidiPDI}, 0},
	} {
		gives(t, c.classes, c.base, c.levels, c.shown)
	}
}
