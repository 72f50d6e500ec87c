package neutral

import (
	"math"
	"slices"
	"strings"
	"testing"

	"typecase/api"
)

// handRow is a pattern between what is at its start and at its end, and what Neutral makes of it at even and at odd levels, written by hand. A star is either end; where nothing is told for odd levels, it is the same as at even ones.
type handRow struct{ pattern, even, odd string }

// ends returns the classes at an end for which the letter stands.
func ends(letter string) []int {
	if letter == "*" {
		return bothEnds()
	}
	return spell(letter)
}

// checkRow checks Neutral against the row at one level.
func checkRow(t *testing.T, row handRow, level int, want string) {
	t.Helper()
	parts := strings.Split(row.pattern, " ")
	for _, sos := range ends(parts[0]) {
		for _, eos := range ends(parts[2]) {
			if got := Neutral(spell(parts[1]), level, sos, eos); !slices.Equal(got, spell(want)) {
				t.Errorf("%s at level %d between %d and %d: %v, not %s", row.pattern, level, sos, eos, got, want)
			}
		}
	}
}

// checkRows checks Neutral against the rows at levels of all sizes.
func checkRows(t *testing.T, rows []handRow) {
	t.Helper()
	for _, row := range rows {
		if row.odd == "" {
			row.odd = row.even
		}
		for _, level := range evenLevels() {
			checkRow(t, row, level, row.even)
		}
		for _, level := range oddLevels() {
			checkRow(t, row, level, row.odd)
		}
	}
}

func TestP15_1Embed(t *testing.T) {
	for level, want := range map[int]int{0: 1, 1: 2, 2: 1, 3: 2, 4: 1, 125: 2, 126: 1, -1: 2, -2: 1, -3: 2, -4: 1, math.MaxInt: 2, math.MaxInt - 1: 1, math.MinInt: 1, math.MinInt + 1: 2, 1 << 32: 1, 1<<32 + 1: 2, -1 << 32: 1, -1<<32 - 1: 2} {
		if got := Embed(level); got != want {
			t.Errorf("Embed(%d) = %d", level, got)
		}
	}
	for half := -300; half <= 300; half++ {
		if Embed(2*half) != api.BidiL || Embed(2*half+1) != api.BidiR {
			t.Errorf("Embed(%d) = %d, Embed(%d) = %d", 2*half, Embed(2*half), 2*half+1, Embed(2*half+1))
		}
	}
}

func TestP15_1NoClasses(t *testing.T) {
	for _, none := range [][]int{nil, {}} {
		for _, level := range allLevels() {
			for _, sos := range everyClass() {
				if len(Neutral(none, level, sos, api.BidiR))+len(Neutral(none, level, api.BidiL, sos))+len(Implicit(none, level)) != 0 {
					t.Errorf("something of nothing at level %d with %d", level, sos)
				}
			}
		}
	}
}

// What is not neutral stays, whatever is around it.
func TestP15_1Unchanged(t *testing.T) {
	checkRows(t, []handRow{
		{"* l *", "l", ""}, {"* r *", "r", ""}, {"* a *", "a", ""}, {"* e *", "e", ""}, {"* s *", "s", ""}, {"* t *", "t", ""}, {"* n *", "n", ""}, {"* c *", "c", ""}, {"* m *", "m", ""}, {"* x *", "x", ""},
		{"* L *", "L", ""}, {"* X *", "X", ""}, {"* R *", "R", ""}, {"* Y *", "Y", ""}, {"* p *", "p", ""}, {"* ? *", "?", ""}, {"* ! *", "!", ""}, {"* - *", "-", ""},
		{"* laestncmrx *", "laestncmrx", ""}, {"* LXRYp *", "LXRYp", ""}, {"* ?!- *", "?!-", ""}, {"* rmrmr *", "rmrmr", ""},
	})
	for _, class := range ofKind(false) {
		for _, level := range allLevels() {
			for _, ends := range [][2]int{{api.BidiL, api.BidiL}, {api.BidiL, api.BidiR}, {api.BidiR, api.BidiL}, {api.BidiR, api.BidiR}} {
				classes := []int{class, api.BidiR, class, class, api.BidiL, class}
				if got := Neutral(classes, level, ends[0], ends[1]); !slices.Equal(got, classes) {
					t.Errorf("%v at level %d became %v", classes, level, got)
				}
			}
		}
	}
}

// A run that is the whole sequence, of one class and of several.
func TestP15_1WholeSequence(t *testing.T) {
	for _, class := range spell("bgw.<([)") {
		for _, level := range allLevels() {
			for _, count := range []int{1, 2, 7} {
				run := slices.Repeat([]int{class}, count)
				for _, c := range [][3]int{{api.BidiL, api.BidiL, api.BidiL}, {api.BidiR, api.BidiR, api.BidiR}, {api.BidiL, api.BidiR, Embed(level)}, {api.BidiR, api.BidiL, Embed(level)}} {
					if got := Neutral(run, level, c[0], c[1]); !slices.Equal(got, slices.Repeat([]int{c[2]}, count)) {
						t.Errorf("%v at level %d between %d and %d: %v", run, level, c[0], c[1], got)
					}
				}
			}
		}
	}
	checkRows(t, []handRow{
		{"l bgw.<([) l", "llllllll", ""}, {"r bgw.<([) r", "rrrrrrrr", ""}, {"l bgw.<([) r", "llllllll", "rrrrrrrr"}, {"r bgw.<([) l", "llllllll", "rrrrrrrr"},
		{"l <) r", "ll", "rr"}, {"r () r", "rr", ""}, {"l ww.. l", "llll", ""}, {"r )w[ l", "lll", "rrr"},
	})
}

func TestP15_1Sides(t *testing.T) {
	checkRows(t, []handRow{
		{"* lwl *", "lll", ""}, {"* rwr *", "rrr", ""}, {"* lwr *", "llr", "lrr"}, {"* rwl *", "rll", "rrl"},
		{"* ewr *", "err", ""}, {"* nwr *", "nrr", ""}, {"* awr *", "arr", ""}, {"* rwe *", "rre", ""}, {"* rwn *", "rrn", ""}, {"* rwa *", "rra", ""},
		{"* ewe *", "ere", ""}, {"* nwn *", "nrn", ""}, {"* awa *", "ara", ""}, {"* ewn *", "ern", ""}, {"* nwe *", "nre", ""}, {"* awe *", "are", ""}, {"* nwa *", "nra", ""},
		{"* ewl *", "ell", "erl"}, {"* lwe *", "lle", "lre"}, {"* nwl *", "nll", "nrl"}, {"* lwn *", "lln", "lrn"}, {"* awl *", "all", "arl"}, {"* lwa *", "lla", "lra"},
		{"* swl *", "sll", ""}, {"* twl *", "tll", ""}, {"* cwl *", "cll", ""}, {"* mwl *", "mll", ""}, {"* xwl *", "xll", ""},
		{"* lws *", "lls", ""}, {"* lwt *", "llt", ""}, {"* lwc *", "llc", ""}, {"* lwm *", "llm", ""}, {"* lwx *", "llx", ""},
		{"* swr *", "slr", "srr"}, {"* twr *", "tlr", "trr"}, {"* cwr *", "clr", "crr"}, {"* mwr *", "mlr", "mrr"}, {"* xwr *", "xlr", "xrr"},
		{"* rws *", "rls", "rrs"}, {"* rwt *", "rlt", "rrt"}, {"* rwc *", "rlc", "rrc"}, {"* rwm *", "rlm", "rrm"}, {"* rwx *", "rlx", "rrx"},
		{"* swt *", "slt", ""}, {"* mwx *", "mlx", ""}, {"* cwe *", "cle", "cre"}, {"* nwm *", "nlm", "nrm"},
		{"* LwR *", "LlR", ""}, {"* YwX *", "YlX", ""}, {"* Rwr *", "Rlr", "Rrr"}, {"* rwY *", "rlY", "rrY"}, {"* pwp *", "plp", ""}, {"* Lwa *", "Lla", "Lra"}, {"* Xwl *", "Xll", ""},
		{"* ?w? *", "?l?", ""}, {"* -wr *", "-lr", "-rr"}, {"* lw! *", "ll!", ""}, {"* rw? *", "rl?", "rr?"}, {"* !w- *", "!l-", ""},
	})
}

// Runs of several classes take one direction, whatever they are made of, and each run takes its own.
func TestP15_1Runs(t *testing.T) {
	checkRows(t, []handRow{
		{"* lbgw.<([)l *", "llllllllll", ""}, {"* rbgw.<([)r *", "rrrrrrrrrr", ""}, {"* l.wl *", "llll", ""}, {"* rw.e *", "rrre", ""}, {"* l<[r *", "lllr", "lrrr"}, {"* r)bl *", "rlll", "rrrl"},
		{"* lwrwl *", "llrll", "lrrrl"}, {"* rwlwr *", "rlllr", "rrlrr"}, {"* lwlwr *", "llllr", "lllrr"}, {"* rwrwl *", "rrrll", "rrrrl"}, {"* lwwr..l *", "lllrlll", "lrrrrrl"},
		{"* ewlwe *", "ellle", "erlre"}, {"* rwewr *", "rrerr", ""}, {"* lwewl *", "llell", "lrerl"}, {"* rwmwr *", "rlmlr", "rrmrr"}, {"* rwrwr *", "rrrrr", ""}, {"* l.l.l *", "lllll", ""},
		{"l wrw l", "lrl", "rrr"}, {"l wlw l", "lll", ""}, {"r wlw r", "lll", "rlr"}, {"r wrw r", "rrr", ""}, {"r wrw l", "rrl", "rrr"}, {"l wew r", "ler", "rer"}, {"r wmw r", "lml", "rmr"},
		{"* l.rr.l *", "llrrll", "lrrrrl"}, {"* rw<r)wl *", "rrrrlll", "rrrrrrl"}, {"* l(w)rl *", "llllrl", "lrrrrl"},
	})
}

func TestP15_1Start(t *testing.T) {
	checkRows(t, []handRow{
		{"l wl *", "ll", ""}, {"r wr *", "rr", ""}, {"l wr *", "lr", "rr"}, {"r wl *", "ll", "rl"}, {"r we *", "re", ""}, {"r wn *", "rn", ""}, {"r wa *", "ra", ""}, {"l we *", "le", "re"}, {"l wm *", "lm", ""}, {"r wm *", "lm", "rm"}, {"r w? *", "l?", "r?"},
		{"l .w<l *", "llll", ""}, {"r .w<r *", "rrrr", ""}, {"l bgr *", "llr", "rrr"}, {"r [)l *", "lll", "rrl"}, {"r wrl *", "rrl", ""}, {"l wlr *", "llr", ""}, {"r wlr *", "llr", "rlr"},
	})
}

func TestP15_1End(t *testing.T) {
	checkRows(t, []handRow{
		{"* lw l", "ll", ""}, {"* rw r", "rr", ""}, {"* rw l", "rl", "rr"}, {"* lw r", "ll", "lr"}, {"* ew r", "er", ""}, {"* nw r", "nr", ""}, {"* aw r", "ar", ""}, {"* ew l", "el", "er"}, {"* mw l", "ml", ""}, {"* mw r", "ml", "mr"}, {"* -w r", "-l", "-r"},
		{"* l.w< l", "llll", ""}, {"* r.w< r", "rrrr", ""}, {"* rbg l", "rll", "rrr"}, {"* l[) r", "lll", "lrr"}, {"* lrw r", "lrr", ""}, {"* rlw l", "rll", ""}, {"* lrw l", "lrl", "lrr"},
	})
}

// Any number but R counts as L at an end, also those whose direction is R within the sequence.
func TestP15_1Ends(t *testing.T) {
	others := slices.DeleteFunc(everyClass(), func(class int) bool { return class == api.BidiR })
	for _, class := range others {
		for _, level := range allLevels() {
			side := Embed(level)
			for _, c := range []struct {
				classes  []int
				sos, eos int
				want     []int
			}{
				{spell("w"), class, class, spell("l")}, {spell("w"), class, api.BidiL, spell("l")}, {spell("w"), api.BidiL, class, spell("l")}, {spell("w"), class, api.BidiR, []int{side}}, {spell("w"), api.BidiR, class, []int{side}},
				{spell("wl"), class, api.BidiR, spell("ll")}, {spell("wr"), class, api.BidiR, []int{side, api.BidiR}}, {spell("lw"), api.BidiR, class, spell("ll")}, {spell("rw"), api.BidiR, class, []int{api.BidiR, side}},
				{spell("we.wa<"), class, class, []int{side, api.BidiEN, api.BidiR, api.BidiR, api.BidiAL, side}},
			} {
				if got := Neutral(c.classes, level, c.sos, c.eos); !slices.Equal(got, c.want) {
					t.Errorf("%v at level %d between %d and %d: %v, not %v", c.classes, level, c.sos, c.eos, got, c.want)
				}
			}
		}
	}
	for _, sos := range []int{api.BidiR, 1<<32 + api.BidiR, -api.BidiR, 1<<8 + api.BidiR} {
		want := map[bool]string{true: "rr", false: "lr"}[sos == api.BidiR]
		if got := Neutral(spell("wr"), 0, sos, api.BidiL); !slices.Equal(got, spell(want)) {
			t.Errorf("behind %d: %v", sos, got)
		}
	}
}

// Each value on each side of each neutral one.
func TestP15_1EveryPair(t *testing.T) {
	for _, before := range everyClass() {
		for _, after := range everyClass() {
			for _, class := range ofKind(true) {
				for _, level := range []int{0, 1, -1, -2} {
					holds(t, []int{before, class, after}, level)
					holds(t, []int{before, class, class, after, class}, level)
				}
			}
		}
	}
}

func TestP15_1ShortLists(t *testing.T) {
	check := func(classes []int) {
		holds(t, classes, 0)
		holds(t, classes, 1)
	}
	lists(3, everyClass(), check)
	lists(4, spell("lraenmxw.<)?"), check)
	lists(7, spell("lrew."), check)
}

func TestP15_1LongLists(t *testing.T) {
	next := stream()
	for _, among := range [][]int{everyClass(), ofKind(true), spell("wwww..<)bglraenmx?")} {
		for range 1500 {
			holds(t, some(next, next(60), among), allLevels()[next(len(allLevels()))])
		}
	}
}

func TestP15_2(t *testing.T) {
	for _, class := range everyClass() {
		even, odd := 0, 0
		switch class {
		case 1:
			odd = 1
		case 2:
			even = 1
		case 4, 7:
			even, odd = 2, 1
		}
		for _, level := range evenLevels() {
			if got := Implicit([]int{class}, level); !slices.Equal(got, []int{level + even}) {
				t.Errorf("%d at level %d: %v", class, level, got)
			}
		}
		for _, level := range oddLevels() {
			if got := Implicit([]int{class}, level); !slices.Equal(got, []int{level + odd}) {
				t.Errorf("%d at level %d: %v", class, level, got)
			}
		}
	}
}

func TestP15_2Rows(t *testing.T) {
	for _, c := range []struct {
		pattern string
		level   int
		want    []int
	}{
		{"lre", 0, []int{0, 1, 2}}, {"lre", 1, []int{2, 1, 2}}, {"lren", 2, []int{2, 3, 4, 4}}, {"lren", 3, []int{4, 3, 4, 4}}, {"lren", -1, []int{0, -1, 0, 0}}, {"lren", -2, []int{-2, -1, 0, 0}}, {"lren", -3, []int{-2, -3, -2, -2}}, {"lren", 124, []int{124, 125, 126, 126}}, {"lren", 125, []int{126, 125, 126, 126}},
		{"a", 0, []int{0}}, {"a", 1, []int{1}}, {"a", -1, []int{-1}}, {"rarae", 0, []int{1, 0, 1, 0, 2}}, {"lalan", 1, []int{2, 1, 2, 1, 2}}, {"eallr", 0, []int{2, 0, 0, 0, 1}}, {"nnrrll", 1, []int{2, 2, 1, 1, 2, 2}},
		{"stcmxbgw.", 0, slices.Repeat([]int{0}, 9)}, {"stcmxbgw.", 1, slices.Repeat([]int{1}, 9)}, {"LXRYp<([)", 2, slices.Repeat([]int{2}, 9)}, {"LXRYp<([)", -1, slices.Repeat([]int{-1}, 9)}, {"?!-", 4, []int{4, 4, 4}}, {"?!-", 5, []int{5, 5, 5}},
	} {
		if got := Implicit(spell(c.pattern), c.level); !slices.Equal(got, c.want) {
			t.Errorf("%s at level %d: %v, not %v", c.pattern, c.level, got, c.want)
		}
	}
	// As near to the greatest int as the sums allow.
	for _, c := range []struct {
		class, level, want int
	}{
		{api.BidiR, math.MaxInt, math.MaxInt}, {api.BidiAL, math.MaxInt, math.MaxInt}, {api.BidiON, math.MaxInt, math.MaxInt}, {api.BidiR, math.MaxInt - 1, math.MaxInt}, {api.BidiL, math.MaxInt - 1, math.MaxInt - 1}, {api.BidiL, math.MaxInt - 2, math.MaxInt - 1}, {api.BidiEN, math.MaxInt - 3, math.MaxInt - 1},
	} {
		if got := Implicit([]int{c.class}, c.level); !slices.Equal(got, []int{c.want}) {
			t.Errorf("%d at level %d: %v", c.class, c.level, got)
		}
	}
}

func TestP15_3(t *testing.T) {
	next := stream()
	check := func(classes []int) {
		for _, level := range []int{0, 1, -1, -2} {
			for _, sos := range []int{api.BidiL, api.BidiR, api.BidiAL, api.BidiWS, 0} {
				for _, eos := range []int{api.BidiL, api.BidiR, api.BidiEN, api.BidiPDI, 24} {
					sound(t, classes, level, sos, eos)
				}
			}
		}
	}
	lists(2, everyClass(), check)
	lists(4, spell("lraexw.)"), check)
	for range 500 {
		check(some(next, next(300), everyClass()))
		check(some(next, next(300), ofKind(true)))
	}
	// Nothing is left to change, at other levels and between other ends either.
	for range 500 {
		once := Neutral(some(next, next(100), everyClass()), next(4), 1+next(2), 1+next(2))
		if twice := Neutral(once, next(4), 1+next(2), 1+next(2)); !slices.Equal(once, twice) {
			t.Errorf("%v, then %v", once, twice)
		}
	}
}

func TestP15_4(t *testing.T) {
	next := stream()
	check := func(classes []int) {
		for _, level := range allLevels() {
			near(t, classes, level)
		}
	}
	lists(2, everyClass(), check)
	lists(5, spell("lraen."), check)
	for range 300 {
		classes := some(next, next(300), everyClass())
		check(classes)
		check(Neutral(classes, next(2), api.BidiL, api.BidiR))
	}
}

func TestR5Arguments(t *testing.T) {
	lists(5, spell("lrew.<"), func(classes []int) {
		// What lies behind the list stays as it is, too.
		room := append(slices.Clone(classes), api.BidiWS, api.BidiON, api.BidiEN)
		for _, level := range []int{0, 1} {
			Neutral(room[:len(classes)], level, api.BidiR, api.BidiL)
			Neutral(room[:len(classes)], level, api.BidiL, api.BidiR)
			Implicit(room[:len(classes)], level)
		}
		if !slices.Equal(room, append(slices.Clone(classes), api.BidiWS, api.BidiON, api.BidiEN)) {
			t.Fatalf("%v became %v", classes, room)
		}
	})
}

func TestR5Results(t *testing.T) {
	calls := []func(given []int) []int{
		func(given []int) []int { return Neutral(given, 1, api.BidiL, api.BidiR) },
		func(given []int) []int { return Implicit(given, 1) },
	}
	lists(5, spell("lrea<"), func(classes []int) {
		for k, call := range calls {
			given := append(slices.Clone(classes), 77)[:len(classes)]
			first, again := call(given), call(given)
			want := slices.Clone(first)
			spoil(given, 99)
			if !slices.Equal(first, want) {
				t.Fatalf("%v: the result %d shares memory with the argument", classes, k)
			}
			spoil(first, 98)
			if !slices.Equal(again, want) {
				t.Fatalf("%v: the results of two calls of %d share memory", classes, k)
			}
			if !slices.Equal(given[:cap(given)], slices.Repeat([]int{99}, cap(given))) {
				t.Fatalf("%v: the argument shares memory with the result %d", classes, k)
			}
		}
	})
}

// No call hangs on those before it.
func TestR4Calls(t *testing.T) {
	for range 3 {
		checkRows(t, []handRow{{"r wrw r", "rrr", ""}, {"l w l", "l", ""}, {"l wl. r", "lll", "llr"}, {"r  r", "", ""}, {"l w r", "l", "r"}})
		if got := Implicit(spell("ner"), 0); !slices.Equal(got, []int{2, 2, 1}) {
			t.Error(got)
		}
	}
}

// Lists of the greatest length.
func TestR8Long(t *testing.T) {
	lots := func(n int, pattern string) []int { return slices.Repeat(spell(pattern), n) }
	half := most / 2
	for _, c := range []struct {
		classes        []int
		level, l, r    int
		want, implicit []int
	}{
		{lots(most, "w"), 0, 1, 2, lots(most, "l"), lots(most, "-")}, {lots(most, "."), 1, 1, 2, lots(most, "r"), slices.Repeat([]int{1}, most)}, {lots(most, "<"), 1, 1, 1, lots(most, "l"), slices.Repeat([]int{1}, most)}, {lots(most, "l"), 1, 2, 2, lots(most, "l"), slices.Repeat([]int{2}, most)},
		{slices.Concat(spell("r"), lots(most-2, "w"), spell("e")), 0, 1, 1, slices.Concat(lots(most-1, "r"), spell("e")), slices.Concat([]int{1}, make([]int, most-2), []int{2})},
		{lots(half, "rw"), 0, 1, 1, append(lots(most-1, "r"), api.BidiL), slices.Repeat([]int{1, 0}, half)}, {lots(half, "wn"), 0, 1, 1, append(spell("ln"), lots(half-1, "rn")...), slices.Repeat([]int{0, 2}, half)},
	} {
		if got := Neutral(c.classes, c.level, c.l, c.r); !slices.Equal(got, c.want) {
			t.Errorf("%v ..: %v ..", c.classes[:4], got[:min(4, len(got))])
		}
		if got := Implicit(c.classes, c.level); !slices.Equal(got, c.implicit) {
			t.Errorf("%v ..: levels %v ..", c.classes[:4], got[:min(4, len(got))])
		}
	}
}

func TestExamples(t *testing.T) {
	const L, R, EN, WS, ON = api.BidiL, api.BidiR, api.BidiEN, api.BidiWS, api.BidiON
	for _, c := range []struct{ got, want []int }{
		{Neutral([]int{R, WS, EN}, 0, L, L), []int{R, R, EN}}, {Neutral([]int{L, ON, R}, 1, L, L), []int{L, R, R}},
		{Implicit([]int{L, R, EN}, 0), []int{0, 1, 2}}, {Implicit([]int{L, R, EN}, 1), []int{2, 1, 2}},
	} {
		if !slices.Equal(c.got, c.want) {
			t.Errorf("%v, not %v", c.got, c.want)
		}
	}
}
