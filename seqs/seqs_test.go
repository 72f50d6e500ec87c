package seqs

import (
	"math"
	"slices"
	"testing"

	"typecase/api"
	"typecase/explicit"
)

// handRow is a pattern with its levels at a base, the marks of its level runs and of its sequences, and the level of each sequence and what is beside it, all written by hand.
type handRow struct {
	base                              int
	pattern, levels, runs, seqs, rest string
}

func checkRows(t *testing.T, rows []handRow) {
	t.Helper()
	for _, row := range rows {
		classes, levels := spell(row.pattern), digits(row.levels)
		if real, _ := explicit.Levels(classes, row.base); !slices.Equal(real, levels) {
			t.Errorf("%s at %d: layer 11 gives the levels %v, not %s", row.pattern, row.base, real, row.levels)
		}
		if got, want := Of(classes, levels, row.base), writtenSeqs(row.seqs, row.rest); !sameSeqs(got, want) {
			t.Errorf("%s at %d: the sequences %v, not %v", row.pattern, row.base, got, want)
		}
		if got, want := Runs(classes, levels), writtenRuns(row.runs); !slices.Equal(got, want) {
			t.Errorf("%s at %d: the runs %v, not %v", row.pattern, row.base, got, want)
		}
		holds(t, classes)
	}
}

func TestP12_1WithoutIsolates(t *testing.T) {
	checkRows(t, []handRow{
		{0, "", "", "", "", ""}, {1, "", "", "", "", ""},
		{0, "l", "0", "a", "a", "0ll"}, {1, "l", "1", "a", "a", "1rr"}, {0, "r", "0", "a", "a", "0ll"}, {1, "r", "1", "a", "a", "1rr"},
		{0, "b", "0", "a", "a", "0ll"}, {1, "b", "1", "a", "a", "1rr"}, {0, "lre.w", "00000", "aaaaa", "aaaaa", "0ll"}, {1, "lre.w", "11111", "aaaaa", "aaaaa", "1rr"},
		{0, "lRrpl", "00110", "a.b.c", "a.b.c", "0lr 1rr 0rl"}, {1, "lRrpl", "11331", "a.b.c", "a.b.c", "1rr 3rr 1rr"}, {0, "lLrpl", "00220", "a.b.c", "a.b.c", "0ll 2ll 0ll"}, {1, "lLrpl", "11221", "a.b.c", "a.b.c", "1rl 2ll 1lr"},
		{0, "RrLlplpl", "01122110", ".a.b.c.d", ".a.b.c.d", "1rl 2ll 1lr 0rl"}, {0, "RrLlp", "01122", ".a.b.", ".a.b.", "1rl 2ll"}, {1, "LlYr", "1223", ".a.b", ".a.b", "2lr 3rr"}, {0, "XlRrLl", "022334", ".a.b.c", ".a.b.c", "2lr 3rl 4ll"}, {0, "RrLlRr", "011223", ".a.b.c", ".a.b.c", "1rl 2lr 3rr"},
		{0, "lll?!-", "000000", "aaaaaa", "aaaaaa", "0ll"}, {1, "?", "1", "a", "a", "1rr"}, {0, "!R-p?", "00110", "a.b.c", "a.b.c", "0lr 1rr 0rl"},
	})
}

func TestP12_1Separator(t *testing.T) {
	checkRows(t, []handRow{
		{0, "lbl", "000", "aaa", "aaa", "0ll"}, {1, "bb", "11", "aa", "aa", "1rr"},
		{0, "Rrpbl", "01100", ".a.bb", ".a.bb", "1rr 0rl"}, {0, "Rrbl", "0100", ".abb", ".abb", "1rr 0rl"}, {1, "Lrbl", "1211", ".abb", ".abb", "2ll 1lr"}, {0, "rbRr", "0001", "aa.b", "aa.b", "0lr 1rr"}, {0, "RbRr", "0001", ".a.b", ".a.b", "0lr 1rr"}, {1, "LlbLlb", "121121", ".ab.cd", ".ab.cd", "2ll 1ll 2ll 1lr"},
	})
}

// Where nothing is before or after, base counts, and it is never above the level itself.
func TestP12_1Base(t *testing.T) {
	checkRows(t, []handRow{
		{0, "Rr", "01", ".a", ".a", "1rr"}, {0, "Lr", "02", ".a", ".a", "2ll"}, {1, "Lr", "12", ".a", ".a", "2ll"}, {1, "Rr", "13", ".a", ".a", "3rr"},
		{0, "Rrpx", "0111", ".a..", ".a..", "1rr"}, {0, "xpRrpp", "000111", "...a..", "...a..", "1rr"}, {1, "xLrpx", "11222", "..a..", "..a..", "2ll"}, {0, "lRp", "000", "a..", "a..", "0ll"}, {0, "RLpl", "0001", "...a", "...a", "1rr"}, {1, "RpXl", "1112", "...a", "...a", "2ll"},
	})
}

func TestP12_1Removed(t *testing.T) {
	checkRows(t, []handRow{
		{0, "x", "0", ".", ".", ""}, {1, "x", "1", ".", ".", ""}, {0, "LRXYpx", "000000", "......", "......", ""}, {1, "RRRppp", "111111", "......", "......", ""},
		{0, "xl", "00", ".a", ".a", "0ll"}, {1, "xxl", "111", "..a", "..a", "1rr"}, {0, "lx", "00", "a.", "a.", "0ll"}, {1, "lxpx", "1111", "a...", "a...", "1rr"},
		{0, "lxl", "000", "a.a", "a.a", "0ll"}, {0, "lxppxl", "000000", "a....a", "a....a", "0ll"}, {0, "xlxxlx", "000000", ".a..a.", ".a..a.", "0ll"}, {0, "lRpl", "0000", "a..a", "a..a", "0ll"}, {0, "RrpRr", "01111", ".a..a", ".a..a", "1rr"}, {0, "RrRp.pl", "0111110", ".a..a.b", ".a..a.b", "1rr 0rl"},
		{0, "RrpLl", "01112", ".a..b", ".a..b", "1rl 2ll"}, {1, "lxxRxrxpxl", "1111133331", "a....b...c", "a....b...c", "1rr 3rr 1rr"},
		{0, "<xl)", "0020", "a.bc", "a.ba", "0ll 2ll"}, {0, "<lx)", "0220", "ab.c", "ab.a", "0ll 2ll"}, {1, "(xxrxx)", "1113331", "a..b..c", "a..b..a", "1rr 3rr"}, {0, "<x)", "000", "a.a", "a.a", "0ll"}, {0, "(Rp)", "0000", "a..a", "a..a", "0ll"}, {0, "x<)x", "0000", ".aa.", ".aa.", "0ll"}, {0, "l(Lp)xl", "0000000", "aa..a.a", "aa..a.a", "0ll"},
		{0, "(Lrp)", "00220", "a.b.c", "a.b.a", "0ll 2ll"}, {0, "(rLrp)", "011220", "ab.c.d", "ab.c.a", "0ll 1rl 2ll"},
	})
}

func TestP12_1Isolates(t *testing.T) {
	checkRows(t, []handRow{
		{0, "<)", "00", "aa", "aa", "0ll"}, {0, "()", "00", "aa", "aa", "0ll"}, {0, "[)", "00", "aa", "aa", "0ll"}, {1, "<)", "11", "aa", "aa", "1rr"}, {1, "()", "11", "aa", "aa", "1rr"}, {1, "[)", "11", "aa", "aa", "1rr"},
		{0, "<l)", "020", "abc", "aba", "0ll 2ll"}, {0, "(l)", "010", "abc", "aba", "0ll 1rr"}, {0, "[l)", "020", "abc", "aba", "0ll 2ll"}, {0, "[r)", "010", "abc", "aba", "0ll 1rr"}, {1, "<r)", "121", "abc", "aba", "1rr 2ll"}, {1, "(r)", "131", "abc", "aba", "1rr 3rr"}, {1, "[.)", "121", "abc", "aba", "1rr 2ll"}, {1, "[a)", "131", "abc", "aba", "1rr 3rr"},
		{0, "l<ll)r", "002200", "aabbcc", "aabbaa", "0ll 2ll"}, {1, "l(r.)l", "113311", "aabbcc", "aabbaa", "1rr 3rr"}, {0, "l()r", "0000", "aaaa", "aaaa", "0ll"},
		{0, "<l)<l)", "020020", "abccde", "abaaca", "0ll 2ll 2ll"}, {0, "(l)l[l)r", "01000200", "abcccdee", "abaaacaa", "0ll 1rr 2ll"}, {0, "(r)()(r)", "01000010", "abccccde", "abaaaaca", "0ll 1rr 1rr"},
		{0, "<(l))", "02320", "abcde", "abcba", "0ll 2ll 3rr"}, {0, "((r)r)", "013110", "abcdde", "abcbba", "0ll 1rr 3rr"}, {1, "<r[l)(r))", "122422321", "abbcddefg", "abbcbbdba", "1rr 2ll 4ll 3rr"}, {0, "((()))", "013310", "abccde", "abccba", "0ll 1rr 3rr"}, {0, "<<<l)))", "0246420", "abcdefg", "abcdcba", "0ll 2ll 4ll 6ll"},
	})
}

// What stands beside a sequence stands beside its ends, on other levels and beyond its isolates.
func TestP12_1Beside(t *testing.T) {
	checkRows(t, []handRow{
		{0, "Rr(r)rpl", "01131110", ".aabcc.d", ".aabaa.c", "1rr 3rr 0rl"}, {0, "L<r)pl", "024220", ".abc.d", ".aba.c", "2ll 4ll 0ll"}, {0, "R<r)pl", "012110", ".abc.d", ".aba.c", "1rr 2ll 0rl"}, {0, "R(r)Ll", "013112", ".abc.d", ".aba.c", "1rl 3rr 2ll"}, {1, "LlpR(r)p", "12223533", ".a..bcd.", ".a..bcb.", "2lr 3rr 5rr"},
		{0, "l(Llp)", "000220", "aa.b.c", "aa.b.a", "0ll 2ll"}, {0, "l(rLlpr)", "00112210", "aab.c.de", "aab.c.da", "0ll 1rl 2ll 1lr"}, {0, "Rrpl(r)l", "01100100", ".a.bbcdd", ".a.bbcbb", "1rr 0rl 1rr"}, {0, "l(r)lRr", "0010001", "aabcc.d", "aabaa.c", "0lr 1rr 1rr"}, {1, "<l)Ll", "12112", "abc.d", "aba.c", "1rl 2ll 2ll"},
	})
}

func TestP12_1InitiatorWithoutPDI(t *testing.T) {
	checkRows(t, []handRow{
		{0, "(", "0", "a", "a", "0ll"}, {1, "<", "1", "a", "a", "1rr"}, {0, "l[", "00", "aa", "aa", "0ll"}, {0, "l(xp", "0000", "aa..", "aa..", "0ll"}, {0, "R<", "01", ".a", ".a", "1rr"},
		{0, "l(r", "001", "aab", "aab", "0ll 1rr"}, {0, "l[r", "001", "aab", "aab", "0ll 1rr"}, {1, "<l", "12", "ab", "ab", "1rr 2ll"}, {1, "[l", "12", "ab", "ab", "1rr 2ll"}, {0, "(xr", "001", "a.b", "a.b", "0ll 1rr"}, {0, "R<l", "012", ".ab", ".ab", "1rr 2ll"}, {1, "L(r", "123", ".ab", ".ab", "2ll 3rr"},
		{0, "(r<l[a", "011223", "abbccd", "abbccd", "0ll 1rr 2ll 3rr"}, {1, "<(<", "123", "abc", "abc", "1rr 2ll 3rr"}, {0, "((r)", "0131", "abcd", "abcb", "0ll 1rr 3rr"}, {0, "<<l)", "0242", "abcd", "abcb", "0ll 2ll 4ll"}, {0, "(r)(r", "01001", "abccd", "abaac", "0ll 1rr 1rr"},
		{0, "(rbl", "0100", "abcc", "abcc", "0ll 1rr 0rl"}, {1, "<lb<l", "12112", "abccd", "abccd", "1rr 2ll 1lr 2ll"}, {0, "(b)", "000", "aaa", "aaa", "0ll"}, {0, "(b(r)", "00010", "aaabc", "aaaba", "0ll 1rr"}, {0, "R(bl", "0100", ".abb", ".abb", "1rr 0rl"},
	})
}

func TestP12_1PDIWithoutInitiator(t *testing.T) {
	checkRows(t, []handRow{
		{0, ")", "0", "a", "a", "0ll"}, {1, ")", "1", "a", "a", "1rr"}, {0, "l)l", "000", "aaa", "aaa", "0ll"}, {0, "Rr)l", "0111", ".aaa", ".aaa", "1rr"}, {0, "Rr)Ll", "01112", ".aa.b", ".aa.b", "1rl 2ll"},
		{0, "Rrp)l", "01100", ".a.bb", ".a.bb", "1rr 0rl"}, {0, "R)p)", "0110", ".a.b", ".a.b", "1rr 0rl"}, {1, "R)p)", "1331", ".a.b", ".a.b", "3rr 1rr"}, {0, "(b)L)", "00002", "aaa.b", "aaa.b", "0ll 2ll"},
		{0, "(r))", "0100", "abcc", "abaa", "0ll 1rr"}, {0, "(r))Rr", "010001", "abcc.d", "abaa.c", "0lr 1rr 1rr"}, {0, "(rb)", "0100", "abcc", "abcc", "0ll 1rr 0rl"}, {0, "(rb)R)", "010001", "abcc.d", "abcc.d", "0ll 1rr 0rr 1rr"},
	})
}

// Each value at each place, with its level run ended and continued, at both bases.
func TestP12_1EveryClass(t *testing.T) {
	for _, class := range everyClass() {
		for _, frame := range [][2]string{{"", ""}, {"l", "l"}, {"R", "l"}, {"Rrp", "l"}, {"l", "Rr"}, {"(", ")"}, {"l(r", "r)l"}, {"(r)", "<l)"}, {"R(l)", "p"}, {"(r", "bl)"}} {
			holds(t, slices.Concat(spell(frame[0]), []int{class}, spell(frame[1])))
		}
	}
	for _, class := range strangeClasses() {
		classes := []int{class, api.BidiRLE, class, class, api.BidiPDF, class}
		gives(t, classes, digits("001110"), 0, writtenSeqs("a.bb.c", "0lr 1rr 0rl"), writtenRuns("a.bb.c"))
	}
}

func TestP12_1ShortLists(t *testing.T) {
	lists(2, everyClass(), func(classes []int) { holds(t, classes) })
	lists(5, spell("LRp<()bxr"), func(classes []int) { holds(t, classes) })
	lists(7, spell("R()br"), func(classes []int) { holds(t, classes) })
	lists(8, spell("<()l"), func(classes []int) { holds(t, classes) })
}

func TestP12_1LongLists(t *testing.T) {
	next := stream()
	busy := spell("(<[)))LRXYpppxlraeb.?")
	for range 4000 {
		holds(t, some(next, next(100), busy))
		holds(t, some(next, next(100), everyClass()))
	}
}

// At the highest levels initiators and what they isolate stay in one level run, whatever has led there.
func TestP12_1Overflow(t *testing.T) {
	for base := range 2 {
		for _, way := range [][2]string{{"R", "L"}, {"Y", "X"}, {"(", "<"}, {"[r", "[l"}} {
			for _, pattern := range []string{"(l)", "(l)l", "<xl)l", "[r)", "(<l)[a)r)l", "(l", "l(", "())", "(Rr)", "(bl", "Ll)l"} {
				classes := climb(base, highest, way[0], way[1])
				at := len(classes) - len(way[0])
				classes = append(classes, spell(pattern)...)
				levels, _ := explicit.Levels(classes, base)
				seqs := Of(classes, levels, base)
				i := slices.IndexFunc(seqs, func(seq Seq) bool { return slices.Contains(seq.At, at) })
				if got := seqs[i]; got.At[0] != at || got.Level != highest || got.Sos != api.BidiR || got.Eos != api.BidiR {
					t.Errorf("%s from %d by %v: %v", pattern, base, way, got)
				}
				holds(t, classes)
			}
		}
	}
	classes := append(climb(0, highest, "R", "L"), spell("(l)x<r")...)
	levels, _ := explicit.Levels(classes, 0)
	at := len(classes) - 7
	gives(t, classes, levels, 0, []Seq{{[]int{at, at + 1, at + 2, at + 3, at + 5, at + 6}, 125, api.BidiR, api.BidiR}}, []api.Cut{{From: at, To: at + 7}})
	classes = append(climb(0, highest-1, "R", "L"), spell("<r)(l)")...)
	levels, _ = explicit.Levels(classes, 0)
	at = len(classes) - 7
	gives(t, classes, levels, 0, []Seq{{[]int{at, at + 1, at + 2, at + 3, at + 4, at + 6}, 124, api.BidiL, api.BidiL}, {[]int{at + 5}, 125, api.BidiR, api.BidiR}}, []api.Cut{{From: at, To: at + 5}, {From: at + 5, To: at + 6}, {From: at + 6, To: at + 7}})
}

func TestP12_1OverflowLists(t *testing.T) {
	next := stream()
	busy := spell("LRp<([))bxlr")
	for _, top := range []int{highest - 2, highest - 1, highest} {
		for _, way := range [][2]string{{"R", "L"}, {"(", "<"}} {
			start := climb(0, top, way[0], way[1])
			lists(3, spell("Rp<()l"), func(list []int) { holds(t, append(start[:len(start):len(start)], list...)) })
			for range 50 {
				holds(t, append(start[:len(start):len(start)], some(next, next(60), busy)...))
			}
		}
	}
}

// Isolates that lie in one another down to the highest level, each a sequence of its own.
func TestP12_1Deep(t *testing.T) {
	for base := range 2 {
		classes := append(climb(base, highest, "(", "<"), slices.Repeat(spell(")"), highest-base)...)
		levels, _ := explicit.Levels(classes, base)
		n := len(classes)
		var seqs []Seq
		for i := range n/2 + 1 {
			class := []int{api.BidiL, api.BidiR}[(base+i)%2]
			seq := Seq{[]int{i, n - 1 - i}, base + i, class, class}
			if i == n/2 {
				seq.At = []int{i}
			}
			seqs = append(seqs, seq)
		}
		var runs []api.Cut
		for i := range n {
			runs = append(runs, api.Cut{From: i, To: i + 1})
		}
		gives(t, classes, levels, base, seqs, runs)
	}
}

func TestP12_2ByHand(t *testing.T) {
	for _, c := range []struct {
		pattern, levels string
		runs            []api.Cut
	}{
		{"", "", nil}, {"x", "0", nil}, {"LpRp", "1111", nil}, {"l", "0", []api.Cut{{From: 0, To: 1}}}, {"lll", "111", []api.Cut{{From: 0, To: 3}}},
		{"xlxlx", "00000", []api.Cut{{From: 1, To: 4}}}, {"xxlRxrxpxl", "0000011110", []api.Cut{{From: 2, To: 3}, {From: 5, To: 6}, {From: 9, To: 10}}}, {"lRrpRrpl", "00111110", []api.Cut{{From: 0, To: 1}, {From: 2, To: 6}, {From: 7, To: 8}}},
		{"r<l)r", "11211", []api.Cut{{From: 0, To: 2}, {From: 2, To: 3}, {From: 3, To: 5}}}, {"(x)b", "0000", []api.Cut{{From: 0, To: 4}}}, {"(rx)b", "01100", []api.Cut{{From: 0, To: 1}, {From: 1, To: 2}, {From: 3, To: 5}}},
	} {
		if got := Runs(spell(c.pattern), digits(c.levels)); !slices.Equal(got, c.runs) {
			t.Errorf("%s: %v, not %v", c.pattern, got, c.runs)
		}
	}
}

func TestDifferentLengths(t *testing.T) {
	classes := spell("l(r)x<lRr))bl(ar")
	levels, _ := explicit.Levels(classes, 0)
	for n := range len(classes) + 1 {
		for m := range len(classes) + 1 {
			got, runs := Of(classes[:n], levels[:m], 0), Runs(classes[:n], levels[:m])
			if n != m && (len(got) != 0 || len(runs) != 0) || n == m && n > 0 && (len(got) == 0 || len(runs) == 0) {
				t.Errorf("%d classes and %d levels: %v and %v", n, m, got, runs)
			}
		}
	}
	for _, some := range [][]int{{api.BidiL}, {0}, {1, 2}, slices.Repeat([]int{api.BidiLRI}, most)} {
		for base := range 2 {
			for _, none := range [][]int{nil, {}} {
				if len(Of(some, none, base))+len(Of(none, some, base)) != 0 || len(Runs(some, none))+len(Runs(none, some)) != 0 {
					t.Errorf("%d of the one and none of the other", len(some))
				}
			}
			if len(Of(some, some[1:], base))+len(Of(some[1:], some, base)) != 0 || len(Runs(some, some[1:]))+len(Runs(some[1:], some)) != 0 {
				t.Errorf("%d of the one and one less of the other", len(some))
			}
		}
	}
}

func TestP12_3(t *testing.T) {
	next := stream()
	for range 3000 {
		classes := some(next, next(400), everyClass())
		for base := range 2 {
			levels, _ := explicit.Levels(classes, base)
			sound(t, classes, levels, Of(classes, levels, base))
		}
	}
}

// Without isolates, also where PDIs stand that match none, the sequences are the level runs.
func TestP12_4(t *testing.T) {
	next := stream()
	flat := slices.DeleteFunc(everyClass(), isolates)
	check := func(classes []int) {
		for base := range 2 {
			levels, _ := explicit.Levels(classes, base)
			all, runs := Of(classes, levels, base), Runs(classes, levels)
			if len(all) != len(runs) {
				t.Fatalf("%v: %d sequences, but %d runs", classes, len(all), len(runs))
			}
			for k, run := range runs {
				if at := all[k].At; at[0] != run.From || at[len(at)-1] != run.To-1 {
					t.Fatalf("%v: the sequence %v is not the run %v", classes, all[k], run)
				}
			}
		}
		holds(t, classes)
	}
	lists(2, flat, check)
	lists(6, spell("LRp)l"), check)
	for range 1000 {
		check(some(next, next(100), flat))
		check(some(next, next(100), spell("RLRLppplrXYxeb")))
	}
}

func TestR5Arguments(t *testing.T) {
	lists(5, spell("Lp([)bx"), func(classes []int) {
		levels, _ := explicit.Levels(classes, 1)
		// What lies behind the lists stays as it is, too.
		room, heights := append(slices.Clone(classes), 77, 78, 79), append(slices.Clone(levels), 87, 88, 89)
		Of(room[:len(classes)], heights[:len(levels)], 1)
		Runs(room[:len(classes)], heights[:len(levels)])
		if !slices.Equal(room, append(slices.Clone(classes), 77, 78, 79)) || !slices.Equal(heights, append(slices.Clone(levels), 87, 88, 89)) {
			t.Fatalf("%v at %v became %v at %v", classes, levels, room, heights)
		}
	})
}

func TestR5Results(t *testing.T) {
	lists(6, spell("R(<)xr"), func(classes []int) {
		levels, _ := explicit.Levels(classes, 0)
		want, wantRuns := byChapter(classes, levels, 0), runsByChapter(classes, levels)
		given, heights := slices.Clone(classes), slices.Clone(levels)
		seqs, runs := Of(given, heights, 0), Runs(given, heights)
		again, againRuns := Of(given, heights, 0), Runs(given, heights)
		spoil(given, 99)
		spoil(heights, 98)
		for k := range seqs {
			if !sameSeq(seqs[k], want[k]) {
				t.Fatalf("%v: the sequence %d shares memory: %v", classes, k, seqs[k])
			}
			spoil(seqs[k].At, 97)
		}
		spoil(seqs, Seq{Level: 96})
		spoil(runs, api.Cut{From: 95})
		if !sameSeqs(again, want) || !slices.Equal(againRuns, wantRuns) {
			t.Fatalf("%v: the results of two calls share memory", classes)
		}
		if !slices.Equal(given[:cap(given)], slices.Repeat([]int{99}, cap(given))) || !slices.Equal(heights[:cap(heights)], slices.Repeat([]int{98}, cap(heights))) {
			t.Fatalf("%v: the results share memory with the arguments", classes)
		}
	})
}

// No call hangs on those before it.
func TestR4Calls(t *testing.T) {
	deep := append(climb(0, highest, "(", "<"), spell("))Rr(")...)
	levels, _ := explicit.Levels(deep, 0)
	want, runs := byChapter(deep, levels, 0), runsByChapter(deep, levels)
	for range 3 {
		gives(t, spell("r<l)r"), digits("11211"), 1, writtenSeqs("aabaa", "1rr 2ll"), writtenRuns("aabcc"))
		gives(t, deep, levels, 0, want, runs)
	}
}

// Lists of the greatest length: one sequence, as many as there can be, many isolates in one sequence, and isolates as deep as can be and deeper.
func TestR8Long(t *testing.T) {
	half := most / 2
	lots := func(n int, pattern string) []int { return slices.Repeat(spell(pattern), n) }
	for _, c := range []struct {
		classes               []int
		seqs, runs, size, max int
	}{
		{lots(most, "l"), 1, 1, most, 0}, {lots(most, "x"), 0, 0, 0, 0}, {lots(most, "b"), 1, 1, most, 0}, {lots(most, ")"), 1, 1, most, 0}, {lots(half, "()"), 1, 1, most, 0}, {lots(half, "xl"), 1, 1, half, 0},
		{lots(half, "Rb"), 1, 1, half, 0}, {lots(most/4, "Rrpl"), half, half, 1, 1}, {lots(most/4, "(r)l"), most/4 + 1, half + 1, most / 4 * 3, 1}, {lots(most/4, "(rbl"), half + 1, half + 1, 3, 1},
		{append(lots(half, "<"), lots(half, ")")...), 63, 125, most - 124, 124}, {append(lots(half, "("), lots(half, ")")...), 64, 127, most - 126, 125}, {lots(most, "["), 63, 63, most - 62, 124}, {slices.Concat(lots(half-1, "R"), spell("l"), lots(half, "p")), 1, 1, 1, 125},
	} {
		levels, _ := explicit.Levels(c.classes, 0)
		all, runs := Of(c.classes, levels, 0), Runs(c.classes, levels)
		sound(t, c.classes, levels, all)
		size, top := 0, 0
		for _, seq := range all {
			size, top = max(size, len(seq.At)), max(top, seq.Level)
		}
		if len(all) != c.seqs || len(runs) != c.runs || size != c.size || top != c.max {
			t.Errorf("%v ..: %d sequences of up to %d code points up to the level %d, and %d runs", c.classes[:8], len(all), size, top, len(runs))
		}
	}
}

// For other levels and bases the chapter promises nothing, but the calls still end and do not panic.
func TestOtherLevels(t *testing.T) {
	next := stream()
	heights := []int{0, 1, 2, 3, -1, -2, 125, 126, math.MinInt, math.MaxInt}
	for range 3000 {
		n := next(40)
		classes, levels := some(next, n, spell("LRp<([))bxlr")), some(next, n, heights)
		for _, base := range []int{0, 1, 2, -1, math.MinInt, math.MaxInt} {
			count := 0
			for _, seq := range Of(classes, levels, base) {
				count += len(seq.At)
			}
			if kept := len(slices.DeleteFunc(slices.Clone(classes), removes)); count != kept {
				t.Fatalf("%v at %v and %d: %d of %d code points are in sequences", classes, levels, base, count, kept)
			}
		}
		if got := Runs(classes, levels); !slices.Equal(got, runsByChapter(classes, levels)) && !slices.Contains(levels, -1) {
			t.Fatalf("%v at %v: the runs %v", classes, levels, got)
		}
	}
}

func TestExamples(t *testing.T) {
	classes := []int{api.BidiR, api.BidiLRI, api.BidiL, api.BidiPDI, api.BidiR}
	levels := []int{1, 1, 2, 1, 1}
	gives(t, classes, levels, 1, []Seq{{[]int{0, 1, 3, 4}, 1, api.BidiR, api.BidiR}, {[]int{2}, 2, api.BidiL, api.BidiL}}, []api.Cut{{From: 0, To: 2}, {From: 2, To: 3}, {From: 3, To: 5}})
	if real, _ := explicit.Levels(classes, 1); !slices.Equal(real, levels) {
		t.Error("layer 11 gives other levels:", real)
	}
}
