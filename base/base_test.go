package base

import (
	"math"
	"slices"
	"testing"

	"typecase/api"
	"typecase/props"
)

// The separators of the tests are written by hand; a mistake there would go unseen elsewhere.
func TestCodes(t *testing.T) {
	for code := rune(-0x100); code <= 0x110100; code++ {
		if (props.Of(code).Bidi == api.BidiB) != separates(code) {
			t.Errorf("%X is of class B by one table alone", code)
		}
	}
	for _, code := range others() {
		if separates(code) {
			t.Errorf("%X is a separator", code)
		}
	}
}

func TestP10_1ByHand(t *testing.T) {
	const (
		nel = 0x85
		ps  = 0x2029
	)
	for _, c := range []struct {
		text []rune
		ends []int
	}{
		{nil, nil}, {[]rune{}, nil}, {[]rune{'a'}, []int{1}}, {[]rune{0x5D0}, []int{1}}, {[]rune{-1}, []int{1}}, {[]rune{0x110000}, []int{1}}, {[]rune{ps}, []int{1}}, {[]rune{nel}, []int{1}}, {[]rune{13}, []int{1}}, {[]rune{10}, []int{1}},
		{[]rune{'a', 'b'}, []int{2}}, {[]rune{'a', ps}, []int{2}}, {[]rune{ps, 'a'}, []int{1, 2}}, {[]rune{'a', ps, 'b'}, []int{2, 3}}, {[]rune{ps, 'a', ps}, []int{1, 3}}, {[]rune{ps, ps}, []int{1, 2}}, {[]rune{ps, ps, ps}, []int{1, 2, 3}}, {[]rune{'a', ps, nel, 0x1C, 'b'}, []int{2, 3, 4, 5}},
		{[]rune{13, 10}, []int{2}}, {[]rune{10, 13}, []int{1, 2}}, {[]rune{13, 13}, []int{1, 2}}, {[]rune{10, 10}, []int{1, 2}}, {[]rune{13, 13, 10}, []int{1, 3}}, {[]rune{13, 10, 10}, []int{2, 3}}, {[]rune{13, 10, 13}, []int{2, 3}}, {[]rune{10, 13, 10}, []int{1, 3}}, {[]rune{13, 10, 13, 10}, []int{2, 4}}, {[]rune{13, 13, 10, 10}, []int{1, 3, 4}},
		{[]rune{'a', 13}, []int{2}}, {[]rune{'a', 10}, []int{2}}, {[]rune{'a', 13, 10}, []int{3}}, {[]rune{13, 'a'}, []int{1, 2}}, {[]rune{10, 'a'}, []int{1, 2}}, {[]rune{13, 10, 'a'}, []int{2, 3}}, {[]rune{'a', 13, 'b'}, []int{2, 3}}, {[]rune{'a', 10, 'b'}, []int{2, 3}}, {[]rune{'a', 13, 10, 'b'}, []int{3, 4}}, {[]rune{'a', 10, 13, 'b'}, []int{2, 3, 4}}, {[]rune{13, 'a', 10}, []int{1, 3}},
		{[]rune{13, ps}, []int{1, 2}}, {[]rune{ps, 10}, []int{1, 2}}, {[]rune{13, nel}, []int{1, 2}}, {[]rune{nel, 10}, []int{1, 2}}, {[]rune{13, 0x1C, 10}, []int{1, 2, 3}}, {[]rune{13, 0x2028, 10}, []int{1, 3}}, {[]rune{13, 10 - 1, 10}, []int{1, 3}}, {[]rune{13, -10}, []int{1, 2}}, {[]rune{-13, 10}, []int{2}}, {[]rune{13, 0x200D, 10}, []int{1, 3}},
	} {
		if got := Paras(c.text); !slices.Equal(got, upTo(c.ends...)) {
			t.Errorf("%X: %v, not up to %v", c.text, got, c.ends)
		}
		parted(t, c.text)
	}
}

// Each code point, valid or not, alone, within a text and beside CR and LF.
func TestP10_1EveryCodePoint(t *testing.T) {
	check := func(code rune) {
		alone, within, near := []rune{code}, []rune{'a', code, 'b'}, []rune{13, code, 10}
		if separates(code) {
			parted(t, near)
			if got := Paras(within); !slices.Equal(got, upTo(2, 3)) {
				t.Fatalf("%X: %v", within, got)
			}
		} else {
			if got := Paras(within); !slices.Equal(got, upTo(3)) {
				t.Fatalf("%X: %v", within, got)
			}
			if got := Paras(near); !slices.Equal(got, upTo(1, 3)) {
				t.Fatalf("%X: %v", near, got)
			}
		}
		if got := Paras(alone); !slices.Equal(got, upTo(1)) {
			t.Fatalf("%X: %v", alone, got)
		}
	}
	for code := rune(-0x100); code <= 0x110100; code++ {
		check(code)
	}
	for _, code := range others() {
		check(code)
	}
}

func TestP10_1ShortTexts(t *testing.T) {
	lists(6, []rune{13, 10, 0x2029, 'a', -10}, func(text []rune) { parted(t, text) })
	lists(3, append(separators(), others()...), func(text []rune) { parted(t, text) })
}

func TestP10_5LongTexts(t *testing.T) {
	next := stream()
	codes := append(separators(), others()...)
	for range 2000 {
		text := make([]rune, next(200))
		few := 1 + next(len(codes))
		for i := range text {
			text[i] = codes[next(few)]
			if next(4) == 0 {
				text[i] = []rune{13, 10}[next(2)]
			}
		}
		parted(t, text)
	}
}

// handMatches are patterns and their matches, written by hand: initiators stand for LRI <, RLI ( and FSI [, and ) is PDI.
func handMatches() map[string][]int {
	return map[string][]int{
		"": {}, "l": {-1}, "<": {-1}, "(": {-1}, "[": {-1}, ")": {-1}, "b": {-1}, "lr.": {-1, -1, -1},
		"<)": {1, 0}, "()": {1, 0}, "[)": {1, 0}, ")<": {-1, -1}, ")(": {-1, -1}, ")[": {-1, -1}, "((": {-1, -1}, "))": {-1, -1}, "<l)": {2, -1, 0}, "l(r)e": {-1, 3, -1, 1, -1},
		"<(": {-1, -1}, "<()": {-1, 2, 1}, "(<)": {-1, 2, 1}, "())": {1, 0, -1}, ")()": {-1, 2, 1}, "()(": {1, 0, -1}, "()<)": {1, 0, 3, 2}, "(()": {-1, 2, 1}, "[[[)": {-1, -1, 3, 2}, "[)))": {1, 0, -1, -1},
		"(<))": {3, 2, 1, 0}, "(([)))": {5, 4, 3, 2, 1, 0}, "(<)[))": {5, 2, 1, 4, 3, 0}, "(<)[)": {-1, 2, 1, 4, 3}, "[(<))": {-1, 4, 3, 2, 1}, "(l<r)e)a": {6, -1, 4, -1, 2, -1, 0, -1}, "(<)))": {3, 2, 1, 0, -1}, ")(<))": {-1, 4, 3, 2, 1}, "(<))[)": {3, 2, 1, 0, 5, 4},
		"(b)": {-1, -1, -1}, "<b)": {-1, -1, -1}, "[b)": {-1, -1, -1}, "(bb)": {-1, -1, -1, -1}, "()b": {1, 0, -1}, "b()": {-1, 2, 1}, "(b()": {-1, -1, 3, 2}, "(b())": {-1, -1, 3, 2, -1}, "((b))": {-1, -1, -1, -1, -1}, "(()b)": {-1, 2, 1, -1, -1}, "(<)b[))": {-1, 2, 1, -1, 5, 4, -1}, "(b<)[b)": {-1, -1, 3, 2, -1, -1, -1}, "(b)()": {-1, -1, -1, 4, 3}, "()b()": {1, 0, -1, 4, 3}, "(([b)))": {-1, -1, -1, -1, -1, -1, -1}, "([<b[))": {-1, -1, -1, -1, 5, 4, -1},
		"({)}": {2, -1, 0, -1}, "{()}": {-1, 2, 1, -1}, "(s)": {2, -1, 0}, "(?)": {2, -1, 0}, "(!-)": {3, -1, -1, 0}, "}()": {-1, 2, 1},
	}
}

func TestP10_2ByHand(t *testing.T) {
	for pattern, want := range handMatches() {
		classes := spell(pattern)
		if got := Match(classes); !slices.Equal(got, want) {
			t.Errorf("%s: %v, not %v", pattern, got, want)
		}
		holds(t, classes)
	}
}

// Each class in each place of an isolate.
func TestP10_2EveryClass(t *testing.T) {
	for _, class := range everyClass() {
		for _, initiator := range initiators() {
			within := []int{initiator, class, api.BidiPDI}
			want := []int{2, -1, 0}
			switch {
			case initiates(class):
				want = []int{-1, 2, 1}
			case class == api.BidiPDI:
				want = []int{1, 0, -1}
			case class == api.BidiB:
				want = []int{-1, -1, -1}
			}
			if got := Match(within); !slices.Equal(got, want) {
				t.Errorf("%v: %v", within, got)
			}
			first, last := []int{class, api.BidiPDI}, []int{initiator, class}
			if got := Match(first); slices.Equal(got, []int{1, 0}) != initiates(class) || slices.Equal(got, []int{-1, -1}) == initiates(class) {
				t.Errorf("%v: %v", first, got)
			}
			if got := Match(last); slices.Equal(got, []int{1, 0}) != (class == api.BidiPDI) || slices.Equal(got, []int{-1, -1}) == (class == api.BidiPDI) {
				t.Errorf("%v: %v", last, got)
			}
		}
	}
}

// All short lists of classes that mean something to isolates, and all shorter ones of all classes.
func TestP10_2ShortLists(t *testing.T) {
	lists(8, []int{api.BidiRLI, api.BidiPDI, api.BidiB, api.BidiL}, func(classes []int) { holds(t, classes) })
	lists(5, []int{api.BidiLRI, api.BidiRLI, api.BidiFSI, api.BidiPDI, api.BidiB, api.BidiR, api.BidiAL, api.BidiEN}, func(classes []int) { holds(t, classes) })
	lists(3, everyClass(), func(classes []int) { holds(t, classes) })
}

// handFirsts are patterns and their first strong class, written by hand, or - for none.
func handFirsts() map[string]rune {
	return map[string]rune{
		"": '-', "l": 'l', "r": 'r', "a": 'a', "e": '-', "n": '-', ".": '-', "w": '-', "m": '-', "s": '-', "b": '-', "{": '-', "}": '-', "(": '-', ")": '-', "?": '-', "!": '-', "-": '-',
		"lr": 'l', "rl": 'r', "ar": 'a', "ra": 'r', "al": 'a', "la": 'l', "el": 'l', "nr": 'r', "en.wmsa": 'a', "en.wms": '-', "{l": 'l', "{}r": 'r', "{l}r": 'l', "?l": 'l', "!-a": 'a',
		"bl": '-', "br": '-', "ba": '-', "lb": 'l', "rb": 'r', ".bl": '-', ".lb": 'l', "eb.l": '-', "bb": '-',
		"(l": '-', "<r": '-', "[a": '-', "(l)": '-', "<l)": '-', "[l)": '-', "(l)r": 'r', "<r)l": 'l', "[r)a": 'a', "l(r)": 'l', ".(r).l": 'l', ")l": 'l', "))r": 'r', "()l": 'l', ")(r)l": 'l', "(r))l": 'l', "r(": 'r', ")r(l": 'r',
		"(r<a)l": '-', "(r<a)l)": '-', "(r<a)l)r": 'r', "(<l)r": '-', "((l)r)a": 'a', "(l)<r)[a)l": 'l', "(l)<r)[a)": '-', "(l)<r[a)l": '-', "([<l)))r": 'r', "([<l)))))a": 'a', "([<l))r": '-', "()()()l": 'l',
		"(bl": '-', "(b)l": '-', "<lb)r": '-', "()bl": '-', "(b)": '-', "(l)b)r": '-', "((b))l": '-', "(<)b)l": '-', "(<b)": '-', ")b": '-', ")lb": 'l', "(l)rb": 'r',
	}
}

func TestP10_3ByHand(t *testing.T) {
	for pattern, letter := range handFirsts() {
		classes, want := spell(pattern), letters()[letter]
		if got := First(classes, 0, len(classes)); got != want {
			t.Errorf("%s: %d, not %d", pattern, got, want)
		}
		holds(t, classes)
	}
}

func TestP10_3RangesByHand(t *testing.T) {
	//                     0123456789012345
	const pattern string = ".(r<a)l)rb[e)n(l"
	classes := spell(pattern)
	for _, c := range []struct {
		from, to int
		want     int
	}{
		{0, 16, api.BidiR}, {0, 9, api.BidiR}, {0, 8, 0}, {0, 7, 0}, {0, 1, 0}, {1, 9, api.BidiR}, {2, 9, api.BidiR}, {2, 3, api.BidiR}, {2, 2, 0}, {3, 9, api.BidiL}, {3, 7, api.BidiL}, {3, 6, 0}, {3, 5, 0}, {4, 9, api.BidiAL}, {4, 5, api.BidiAL}, {5, 9, api.BidiL}, {5, 6, 0}, {5, 7, api.BidiL}, {6, 7, api.BidiL},
		{7, 9, api.BidiR}, {7, 8, 0}, {8, 9, api.BidiR}, {8, 16, api.BidiR}, {9, 16, 0}, {10, 16, 0}, {11, 16, 0}, {12, 16, 0}, {13, 16, 0}, {14, 16, 0}, {15, 16, api.BidiL}, {15, 99, api.BidiL}, {16, 16, 0}, {16, 99, 0}, {17, 99, 0}, {15, 15, 0}, {15, 14, 0}, {8, 3, 0},
		{-1, 16, api.BidiR}, {-1, 3, 0}, {low, 9, api.BidiR}, {low, high, api.BidiR}, {0, high, api.BidiR}, {15, high, api.BidiL}, {high, high, 0}, {high, low, 0}, {low, low, 0}, {0, low, 0}, {0, -1, 0}, {-5, -2, 0}, {-5, 0, 0}, {2, 0, 0}, {high, 16, 0}, {2, low, 0}, {high, 3, 0},
	} {
		if got := First(classes, c.from, c.to); got != c.want {
			t.Errorf("from %d to %d: %d, not %d", c.from, c.to, got, c.want)
		}
		holdsIn(t, classes, c.from, c.to)
	}
	for _, from := range far(0) {
		for _, to := range far(0) {
			if First(nil, from, to) != 0 || First([]int{}, from, to) != 0 {
				t.Errorf("of nothing from %d to %d there is one", from, to)
			}
		}
	}
}

// Each class alone, before a strong one, in an isolate, behind one, and behind an initiator without a PDI.
func TestP10_3EveryClass(t *testing.T) {
	for _, class := range everyClass() {
		own, next := 0, api.BidiR
		switch {
		case slices.Contains(strong(), class):
			own, next = class, class
		case class == api.BidiB || initiates(class):
			next = 0
		}
		behind := own
		for _, initiator := range initiators() {
			within := api.BidiR
			if class == api.BidiB || initiates(class) {
				within = 0
			}
			for _, c := range []struct {
				classes []int
				want    int
			}{
				{[]int{class}, own}, {[]int{class, api.BidiR}, next}, {[]int{api.BidiWS, class, api.BidiR}, next}, {[]int{api.BidiL, class}, api.BidiL}, {[]int{initiator, class}, 0}, {[]int{initiator, api.BidiL, class}, 0}, {[]int{initiator, class, api.BidiPDI, api.BidiR}, within}, {[]int{initiator, api.BidiAL, api.BidiPDI, class}, behind},
			} {
				if got := First(c.classes, 0, len(c.classes)); got != c.want {
					t.Errorf("%v: %d, not %d", c.classes, got, c.want)
				}
			}
		}
	}
}

// All ranges of short lists, also beyond their ends.
func TestP10_3ShortLists(t *testing.T) {
	some := []int{api.BidiLRI, api.BidiFSI, api.BidiPDI, api.BidiB, api.BidiL, api.BidiAL, api.BidiON}
	lists(4, some, func(classes []int) {
		for from := -1; from <= len(classes)+1; from++ {
			for to := -1; to <= len(classes)+1; to++ {
				holdsIn(t, classes, from, to)
			}
		}
	})
	lists(2, some, func(classes []int) {
		for _, from := range far(len(classes)) {
			for _, to := range far(len(classes)) {
				holdsIn(t, classes, from, to)
			}
		}
	})
}

// some returns a list of n classes in which few of the given ones occur often.
func some(next func(int) int, n int, among []int) []int {
	few := 1 + next(len(among))
	classes := make([]int, n)
	for i := range classes {
		classes[i] = among[next(few)]
		if next(3) == 0 {
			classes[i] = among[next(len(among))]
		}
	}
	return classes
}

func TestP10_6LongLists(t *testing.T) {
	next := stream()
	all := append(initiators(), api.BidiPDI, api.BidiPDI, api.BidiPDI)
	all = append(append(all, everyClass()...), strong()...)
	for range 3000 {
		classes := some(next, next(60), all)
		holds(t, classes)
		for range 20 {
			holdsIn(t, classes, next(len(classes)+3)-1, next(len(classes)+3)-1)
		}
	}
}

// idle are the classes that may be inserted into an isolate or exchanged there.
func idle() []int {
	return slices.DeleteFunc(everyClass(), parts)
}

// What stands within an isolate doesn't matter for the first strong class outside.
func TestP10_6Within(t *testing.T) {
	next := stream()
	all := []int{api.BidiRLI, api.BidiFSI, api.BidiPDI, api.BidiPDI, api.BidiON, api.BidiL, api.BidiAL, api.BidiLRI, api.BidiR, api.BidiB, api.BidiPDI, api.BidiEN}
	put := idle()
	changed := 0
	for range 5000 {
		classes := some(next, next(20), all)
		first := First(classes, 0, len(classes))
		for i, m := range Match(classes) {
			if m < i {
				continue
			}
			other := slices.Clone(classes)
			for j := i + 1; j < m; j++ {
				if !parts(other[j]) {
					other[j] = put[next(len(put))]
				}
			}
			at := i + 1 + next(m-i)
			other = slices.Insert(other, at, some(next, 1+next(4), put)...)
			changed++
			if got := First(other, 0, len(other)); got != first {
				t.Fatalf("%v: %d, but %v: %d", classes, first, other, got)
			}
		}
	}
	if changed < 1000 {
		t.Errorf("there were but %d isolates", changed)
	}
}

// Each class that may stand in an isolate, before each first strong class.
func TestP10_6EveryClass(t *testing.T) {
	for _, class := range idle() {
		for _, last := range strong() {
			for _, pattern := range []string{"(-)-", "<-)-", "[-)-", "(<-)-)-", "(<)-)-", "()[-)-"} {
				classes := spell(pattern)
				for i, c := range classes {
					if c == 0 {
						classes[i] = class
					}
				}
				classes[len(classes)-1] = last
				if got := First(classes, 0, len(classes)); got != last {
					t.Errorf("%v: %d", classes, got)
				}
			}
		}
	}
}

func TestP10_4ByHand(t *testing.T) {
	for pattern, letter := range handFirsts() {
		level, ok := Level(spell(pattern))
		want, has := 0, letter != '-'
		if letter == 'r' || letter == 'a' {
			want = 1
		}
		if level != want || ok != has {
			t.Errorf("%s: %d, %t", pattern, level, ok)
		}
	}
	for _, class := range everyClass() {
		level, ok := Level([]int{class})
		if (level == 1) != (class == api.BidiR || class == api.BidiAL) || ok != slices.Contains(strong(), class) || level&^1 != 0 {
			t.Errorf("%d: %d, %t", class, level, ok)
		}
	}
	if level, ok := Level(nil); level != 0 || ok {
		t.Error("there is a level of nothing:", level, ok)
	}
}

func TestR5Arguments(t *testing.T) {
	text := []rune{'a', 13, 10, 'b', 0x2029, 13, -1, 10}
	kept := slices.Clone(text)
	Paras(text)
	Paras(text[:0])
	if !slices.Equal(text, kept) {
		t.Errorf("Paras made %X of %X", text, kept)
	}
	lists(5, []int{api.BidiRLI, api.BidiPDI, api.BidiB, api.BidiL}, func(classes []int) {
		// What lies behind the classes stays as it is, too.
		room := append(slices.Clone(classes), 77, 78, 79)
		given := room[:len(classes)]
		Match(given)
		First(given, -1, len(given)+2)
		Level(given)
		if !slices.Equal(room, append(slices.Clone(classes), 77, 78, 79)) {
			t.Fatalf("%v became %v", classes, room)
		}
	})
}

func TestR5Results(t *testing.T) {
	text := []rune{'a', 13, 10, 'b', 0x2029, 'c'}
	paras, again := Paras(text), Paras(text)
	spoil(text, 10)
	if want := upTo(3, 5, 6); !slices.Equal(paras, want) || !slices.Equal(again, want) {
		t.Error("Paras hangs on its argument:", paras)
	}
	spoil(paras, api.Cut{From: 7, To: 9})
	if !slices.Equal(again, upTo(3, 5, 6)) {
		t.Error("two results of Paras share memory:", again)
	}
	for pattern, want := range handMatches() {
		classes := spell(pattern)
		matches, again := Match(classes), Match(classes)
		spoil(classes, 99)
		if !slices.Equal(matches, want) {
			t.Errorf("%s: Match hangs on its argument: %v", pattern, matches)
		}
		spoil(matches, 77)
		if !slices.Equal(again, want) || !slices.Equal(classes[:cap(classes)], slices.Repeat([]int{99}, cap(classes))) {
			t.Errorf("%s: results of Match share memory", pattern)
		}
	}
}

func TestR8Paras(t *testing.T) {
	for _, text := range [][]rune{
		slices.Repeat([]rune{'a'}, most), slices.Repeat([]rune{10}, most), slices.Repeat([]rune{13}, most), slices.Repeat([]rune{13, 10}, most/2), slices.Repeat([]rune{10, 13}, most/2), slices.Repeat([]rune{'a', 0x2029}, most/2), append(slices.Repeat([]rune{'a'}, most-1), 13), append(slices.Repeat([]rune{0x5D0}, most-2), 13, 10), slices.Repeat([]rune{math.MinInt32}, most),
	} {
		parted(t, text)
	}
}

func TestR8Match(t *testing.T) {
	lots := func(class, n int) []int { return slices.Repeat([]int{class}, n) }
	for i, classes := range [][]int{
		slices.Concat(lots(api.BidiRLI, most/2), lots(api.BidiPDI, most/2)), lots(api.BidiFSI, most), lots(api.BidiPDI, most), slices.Repeat([]int{api.BidiLRI, api.BidiPDI}, most/2), slices.Concat(lots(api.BidiPDI, most/2), lots(api.BidiRLI, most/2)), slices.Concat(lots(api.BidiRLI, most/2-1), []int{api.BidiB}, lots(api.BidiPDI, most/2)), lots(api.BidiB, most), lots(api.BidiL, most),
	} {
		for at, m := range Match(classes) {
			want := -1
			switch {
			case i == 0:
				want = most - 1 - at
			case i == 3:
				want = at ^ 1
			}
			if m != want {
				t.Fatalf("list %d: %d matches %d", i, at, m)
			}
		}
	}
}

func TestR8First(t *testing.T) {
	lots := func(class, n int) []int { return slices.Repeat([]int{class}, n) }
	half := most/2 - 1
	deep, right := slices.Concat(lots(api.BidiRLI, half), lots(api.BidiPDI, half)), []int{api.BidiR}
	for _, c := range []struct {
		classes []int
		want    int
	}{
		{append(lots(api.BidiON, most-1), api.BidiAL), api.BidiAL}, {slices.Concat(deep, right), api.BidiR}, {slices.Concat(deep[1:], right), api.BidiR}, {slices.Concat(deep[:2*half-1], right), 0}, {append(lots(api.BidiPDI, most-1), api.BidiL), api.BidiL}, {append(lots(api.BidiFSI, most-1), api.BidiL), 0}, {append(lots(api.BidiEN, most-2), api.BidiB, api.BidiL), 0}, {lots(api.BidiWS, most), 0},
	} {
		if got := First(c.classes, low, high); got != c.want {
			t.Errorf("%d classes: %d, not %d", len(c.classes), got, c.want)
		}
		want, has := levelByChapter(c.want)
		if level, ok := Level(c.classes); level != want || ok != has {
			t.Errorf("%d classes: %d, %t", len(c.classes), level, ok)
		}
	}
}

func TestExamples(t *testing.T) {
	if got := Paras([]rune{'a', 10, 'b'}); !slices.Equal(got, []api.Cut{{From: 0, To: 2}, {From: 2, To: 3}}) {
		t.Error("a, LF, b:", got)
	}
	if got := Paras([]rune{'a', 13, 10}); !slices.Equal(got, []api.Cut{{From: 0, To: 3}}) {
		t.Error("a, CR, LF:", got)
	}
	if got := Match([]int{api.BidiLRI, api.BidiL, api.BidiPDI, api.BidiPDI}); !slices.Equal(got, []int{2, -1, 0, -1}) {
		t.Error("Match:", got)
	}
	for _, c := range []struct {
		classes []int
		level   int
		ok      bool
	}{
		{[]int{api.BidiLRI, api.BidiR, api.BidiPDI, api.BidiL}, 0, true}, {[]int{api.BidiRLI, api.BidiL}, 0, false}, {[]int{api.BidiON, api.BidiAL}, 1, true},
	} {
		if level, ok := Level(c.classes); level != c.level || ok != c.ok {
			t.Errorf("%v: %d, %t", c.classes, level, ok)
		}
	}
	if got := First([]int{api.BidiON, api.BidiR, api.BidiL}, 1, 2); got != api.BidiR {
		t.Error("First:", got)
	}
}
