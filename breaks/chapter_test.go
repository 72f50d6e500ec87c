package breaks

import (
	"math"
	"slices"
	"strings"
	"testing"

	"typecase/api"
	"typecase/grapheme"
	"typecase/props"
)

// most is the greatest number of elements of a list for which the document promises something (R8).
const most = 1 << 16

const (
	// classes is the number of Break classes.
	classes = 35
	// nobody stands for the class of a code point that isn't there.
	nobody = classes
)

// classNames are the names of the Break classes in the order of their numbers.
const classNames = "AL BK CR LF SP ZW WJ GL CM ZWJ BA BB HY CL CP EX IN NS OP QU IS NU PO PR SY ID EB EM HL RI JL JV JT H2 H3"

// signs returns code points of each Break class, written by hand, so that the tests don't lean on another layer. The first ones are of such Cluster classes that they form a cluster with as few others as possible, but for CM.
func signs() [classes][]rune {
	return [classes][]rune{
		api.BrAL:  {'a', '#', 'Z', 0x416, 0x628, 0x915, 0xE01, 0x2200, 0xFFFD, 0x1F265, 0x378, 0xFFFF, 0x10FFFF, -1, math.MinInt32, 0xD800, 0xDFFF, 0x110000, math.MaxInt32},
		api.BrBK:  {0x2028, 0x2029, 0x0B, 0x0C, 0x85},
		api.BrCR:  {0x0D},
		api.BrLF:  {0x0A},
		api.BrSP:  {' '},
		api.BrZW:  {0x200B},
		api.BrWJ:  {0x2060, 0xFEFF},
		api.BrGL:  {0xA0, 0x2007, 0x2011, 0x202F},
		api.BrCM:  {0x301, 0x01, 0x903, 0x200E, 0x61C, 0xFE0F, 0x200C, 0x2069, 0xE33, 0xE0101},
		api.BrZWJ: {0x200D},
		api.BrBA:  {'|', 0x09, 0xAD, 0x2010, 0x2014, 0x3000, 0x5BE},
		api.BrBB:  {0xB4},
		api.BrHY:  {'-'},
		api.BrCL:  {'}', 0x3001, 0x300B, 0xFF09, 0xFF0C},
		api.BrCP:  {')', ']'},
		api.BrEX:  {'!', '?', 0x5C6, 0x61B, 0x6D4, 0xFF01},
		api.BrIN:  {0x2025, 0x2026},
		api.BrNS:  {0x3005, 0x309D, 0x30FB, 0x30FC},
		api.BrOP:  {'(', '[', '{', 0xA1, 0xBF, 0x300A, 0xFF08},
		api.BrQU:  {'"', '\'', 0xAB, 0xBB, 0x2019, 0x201C, 0x203A},
		api.BrIS:  {',', '.', ':', ';', 0x37E, 0x60C, 0x2044},
		api.BrNU:  {'1', '0', 0x669, 0x66B, 0x6F0, 0x966, 0x600, 0x6DD},
		api.BrPO:  {'%', 0xB0, 0x66A, 0x2030},
		api.BrPR:  {'$', '+', '\\', 0xA3, 0x20AC, 0x2212},
		api.BrSY:  {'/'},
		api.BrID:  {0x4E00, 0x3042, 0x30A2, 0x2600, 0x1F300, 0x1F600, 0xFF15, 0x20000},
		api.BrEB:  {0x1F466, 0x1F469},
		api.BrEM:  {0x1F3FB, 0x1F3FF},
		api.BrHL:  {0x5D0, 0x5F0, 0xFB1D, 0xFB4F},
		api.BrRI:  {0x1F1E6, 0x1F1FF},
		api.BrJL:  {0x1100, 0x115F},
		api.BrJV:  {0x1160, 0x11A7},
		api.BrJT:  {0x11A8, 0x11FF},
		api.BrH2:  {0xAC00, 0xAC1C, 0xD788},
		api.BrH3:  {0xAC01, 0xAC1B, 0xD7A3},
	}
}

// sign is the first code point of the class of that name.
func sign(name string) rune { return signs()[slices.Index(strings.Fields(classNames), name)][0] }

// spelled returns the text of the first code points of the classes of these names. A single x stands for a CM that begins a cluster.
func spelled(names string) []rune {
	var text []rune
	for _, name := range strings.Fields(names) {
		if name == "x" {
			text = append(text, control)
		} else {
			text = append(text, sign(name))
		}
	}
	return text
}

// control is of class CM, but stands in a cluster of its own.
const control rune = 1

// firsts returns one code point of each class, and control.
func firsts() []rune {
	var all []rune
	for _, of := range signs() {
		all = append(all, of[0])
	}
	return append(all, control)
}

// allSigns returns all code points of signs.
func allSigns() []rune {
	all := signs()
	return slices.Concat(all[:]...)
}

// set is a set of classes, and of nobody.
type set [classes + 1]bool

// setOf returns the set of the classes of these names. With ! in front it is that of all others, and without names that of all.
func setOf(names string) set {
	var s set
	for i, name := range strings.Fields(classNames) {
		s[i] = slices.Contains(strings.Fields(strings.TrimPrefix(names, "!")), name)
	}
	if names == "" || names[0] == '!' {
		for i := range s {
			s[i] = !s[i]
		}
	}
	return s
}

// spot is a position that is neither the first nor the last one of its text, and the chapter's words for what is beside it.
type spot struct {
	joined           bool // it isn't a cluster boundary
	a, b, s          int
	ownA, ownB, ownS int
	ahead            int // the resolved class of the code point before the base of A
	oddRegionals     bool
}

// ownClasses returns the own class of each code point of the text.
func ownClasses(text []rune) []int {
	var owns []int
	for _, r := range text {
		owns = append(owns, props.Of(r).Break)
	}
	return owns
}

// takes tells whether the code point at k takes its class from its predecessor.
func takes(owns []int, k int) bool {
	if owns[k] != api.BrCM && owns[k] != api.BrZWJ || k == 0 {
		return false
	}
	switch owns[k-1] {
	case api.BrBK, api.BrCR, api.BrLF, api.BrSP, api.BrZW:
		return false
	}
	return true
}

// base returns the base of the code point at k.
func base(owns []int, k int) int {
	for takes(owns, k) {
		k--
	}
	return k
}

// resolved returns the resolved class of the code point at k, which may be -1: nobody.
func resolved(owns []int, k int) int {
	if k < 0 {
		return nobody
	}
	class := owns[base(owns, k)]
	if class == api.BrCM || class == api.BrZWJ {
		return api.BrAL
	}
	return class
}

// spotAt describes position i of the text, of which the own classes are given, too.
func spotAt(text []rune, owns []int, i int) spot {
	p := spot{joined: !grapheme.Is(text, i), a: resolved(owns, i-1), b: resolved(owns, i), ownA: owns[i-1], ownB: owns[i]}
	p.ahead = resolved(owns, base(owns, i-1)-1)
	last := i - 1
	for last >= 0 && owns[last] == api.BrSP {
		last--
	}
	p.s, p.ownS = resolved(owns, last), nobody
	if last >= 0 {
		p.ownS = owns[last]
	}
	regionals := 0
	for k := i - 1; k >= 0; k-- {
		if owns[k] == api.BrRI {
			regionals++
		} else if owns[k] != api.BrCM && owns[k] != api.BrZWJ {
			break
		}
	}
	p.oddRegionals = regionals%2 == 1
	return p
}

// clause is one clause of the chapter's rows of rules: the kind it gives if all of its conditions hold.
type clause struct {
	row, kind                          int
	joined, odd                        bool
	a, b, s, ownA, ownB, ownS, ahead   string
	inA, inB, inS                      set
	inOwnA, inOwnB, inOwnS, inAheadOfA set
}

// clauses returns the chapter's rows of rules, in order.
func clauses() []clause {
	list := []clause{
		{row: 1, kind: No, joined: true},
		{row: 2, kind: Must, ownA: "BK LF CR"},
		{row: 2, kind: No, ownB: "BK CR LF SP ZW"},
		{row: 3, kind: May, ownS: "ZW"},
		{row: 3, kind: No, ownA: "ZWJ"},
		{row: 3, kind: No, ownB: "CM ZWJ", ownA: "!SP"},
		{row: 4, kind: No, a: "WJ"},
		{row: 4, kind: No, b: "WJ"},
		{row: 4, kind: No, a: "GL"},
		{row: 4, kind: No, b: "GL", a: "!SP BA HY"},
		{row: 5, kind: No, b: "CL CP EX IS SY"},
		{row: 5, kind: No, s: "OP"},
		{row: 5, kind: No, s: "QU", b: "OP"},
		{row: 5, kind: No, s: "CL CP", b: "NS"},
		{row: 6, kind: May, ownA: "SP"},
		{row: 6, kind: No, a: "QU"},
		{row: 6, kind: No, b: "QU"},
		{row: 7, kind: No, b: "BA HY NS"},
		{row: 7, kind: No, a: "BB"},
		{row: 7, kind: No, a: "HY BA", ahead: "HL"},
		{row: 7, kind: No, a: "SY", b: "HL"},
		{row: 7, kind: No, b: "IN"},
		{row: 8, kind: No, a: "AL HL", b: "NU"},
		{row: 8, kind: No, a: "NU", b: "AL HL"},
		{row: 8, kind: No, a: "PR", b: "ID EB EM"},
		{row: 8, kind: No, a: "ID EB EM", b: "PO"},
		{row: 8, kind: No, a: "PR PO", b: "AL HL"},
		{row: 8, kind: No, a: "AL HL", b: "PR PO"},
		{row: 9, kind: No, a: "CL CP NU", b: "PO PR"},
		{row: 9, kind: No, a: "PO PR", b: "OP NU"},
		{row: 9, kind: No, a: "HY IS NU SY", b: "NU"},
		{row: 10, kind: No, a: "JL", b: "JL JV H2 H3"},
		{row: 10, kind: No, a: "JV H2", b: "JV JT"},
		{row: 10, kind: No, a: "JT H3", b: "JT"},
		{row: 10, kind: No, a: "JL JV JT H2 H3", b: "PO"},
		{row: 10, kind: No, a: "PR", b: "JL JV JT H2 H3"},
		{row: 11, kind: No, a: "AL HL", b: "AL HL"},
		{row: 11, kind: No, a: "IS", b: "AL HL"},
		{row: 11, kind: No, a: "AL HL NU", b: "OP"},
		{row: 11, kind: No, a: "CP", b: "AL HL NU"},
		{row: 11, kind: No, a: "EB", b: "EM"},
		{row: 12, kind: No, a: "RI", b: "RI", odd: true},
		{row: 12, kind: May},
	}
	for i := range list {
		c := &list[i]
		c.inA, c.inB, c.inS = setOf(c.a), setOf(c.b), setOf(c.s)
		c.inOwnA, c.inOwnB, c.inOwnS, c.inAheadOfA = setOf(c.ownA), setOf(c.ownB), setOf(c.ownS), setOf(c.ahead)
	}
	return list
}

// applies tells whether all conditions of the clause hold at the spot.
func (c *clause) applies(p *spot) bool {
	if c.joined && !p.joined || c.odd && !p.oddRegionals {
		return false
	}
	return c.inA[p.a] && c.inB[p.b] && c.inS[p.s] && c.inOwnA[p.ownA] && c.inOwnB[p.ownB] && c.inOwnS[p.ownS] && c.inAheadOfA[p.ahead]
}

// chapter is the list of clauses, made once, and the classes that Window asks for.
type chapter struct {
	clauses         []clause
	carried, marked set
}

// decide returns the number of the first clause that applies at the spot.
func (c *chapter) decide(p *spot) int {
	for i := range c.clauses {
		if c.clauses[i].applies(p) {
			return i
		}
	}
	panic("the last clause always applies")
}

// kinds returns what Of is asked for.
func (c *chapter) kinds(text []rune) []int {
	var kinds []int
	owns := ownClasses(text)
	for i := 0; i <= len(text) && len(text) > 0; i++ {
		switch i {
		case 0:
			kinds = append(kinds, No)
		case len(text):
			kinds = append(kinds, Must)
		default:
			p := spotAt(text, owns, i)
			kinds = append(kinds, c.clauses[c.decide(&p)].kind)
		}
	}
	return kinds
}

// newChapter returns the chapter's rules.
func newChapter() *chapter {
	return &chapter{clauses(), setOf("CM ZWJ SP RI EM"), setOf("CM ZWJ")}
}

// windowEnd returns the end of the sequence that Window is asked for, by the own classes of the text.
func (c *chapter) windowEnd(owns []int, i int) int {
	first := func(from int, in set) int {
		if k := slices.IndexFunc(owns[from:], func(class int) bool { return !in[class] }); k >= 0 {
			return from + k
		}
		return len(owns)
	}
	return first(min(first(i, c.carried)+1, len(owns)), c.marked)
}

// far returns the numbers from below 0 to above n, and both ends of int.
func far(n int) []int {
	at := []int{math.MinInt, math.MinInt + 1, math.MinInt32, -9}
	for i := -2; i <= n+2; i++ {
		at = append(at, i)
	}
	return append(at, n+9, math.MaxInt32, 1<<32, 1<<32+1, math.MaxInt-1, math.MaxInt)
}

// holds checks every call about the text against the chapter.
func (c *chapter) holds(t *testing.T, text []rune) {
	t.Helper()
	gives(t, text, c.kinds(text))
	owns := ownClasses(text)
	for _, i := range far(len(text)) {
		from, to := 0, 0
		if i >= 0 && i <= len(text) {
			from, to = i, c.windowEnd(owns, i)
		}
		if a, b := Window(text, i); a != from || b != to {
			t.Fatalf("Window(%X, %d) = %d and %d, not %d and %d", text, i, a, b, from, to)
		}
	}
	got := Classes(text)
	if len(got) != len(text) {
		t.Fatalf("Classes(%X) = %v", text, got)
	}
	for k, class := range got {
		if class != resolved(owns, k) {
			t.Fatalf("Classes(%X) = %v, but at %d stands %d", text, got, k, resolved(owns, k))
		}
	}
}

// gives checks what is answered about the kinds of the text.
func gives(t *testing.T, text []rune, kinds []int) {
	t.Helper()
	if got := Of(text); !slices.Equal(got, kinds) {
		t.Fatalf("Of(%X) = %v, not %v", text, got, kinds)
	}
	for _, i := range far(len(text)) {
		want := No
		if i >= 0 && i < len(kinds) {
			want = kinds[i]
		}
		if got := At(text, i); got != want {
			t.Fatalf("At(%X, %d) = %d, not %d", text, i, got, want)
		}
	}
	var cuts []api.Cut
	for from, to := 0, 1; to < len(kinds); to++ {
		if kinds[to] != No {
			cuts = append(cuts, api.Cut{From: from, To: to})
			from = to
		}
	}
	if got := Cuts(text); !slices.Equal(got, cuts) {
		t.Fatalf("Cuts(%X) = %v, not %v", text, got, cuts)
	}
}

// lists calls visit with each list of at most longest of the given elements.
func lists[T any](longest int, among []T, visit func(list []T)) {
	count := 1
	for size := range longest + 1 {
		for code := range count {
			list := make([]T, size)
			for i := range list {
				list[i] = among[code%len(among)]
				code /= len(among)
			}
			visit(list)
		}
		count *= len(among)
	}
}

// stream returns a function that returns numbers from 0 up to n, the same ones each time.
func stream() func(n int) int {
	state := uint64(1)
	return func(n int) int {
		state = state*6364136223846793005 + 1442695040888963407
		return int(state >> 33 % uint64(n))
	}
}

// some returns a list of n of the given elements.
func some[T any](next func(int) int, n int, among []T) []T {
	list := make([]T, n)
	for i := range list {
		list[i] = among[next(len(among))]
	}
	return list
}

// carried are code points such that what stands before them may matter for what is behind them.
func carried() []rune {
	return []rune{0x301, control, 0x903, 0x200D, ' ', ' ', 0x200B, 0x1F1E6, 0x1F1FF, 0x1F466, 0x1F3FB, 0x2600}
}

// someText returns n code points of all classes, many of which are carried.
func someText(next func(int) int, n int) []rune {
	all, often := allSigns(), carried()
	once := firsts()
	text := make([]rune, n)
	for i := range text {
		switch next(6) {
		case 0:
			text[i] = all[next(len(all))]
		case 1, 2, 3:
			text[i] = once[next(len(once))]
		default:
			text[i] = often[next(len(often))]
		}
	}
	return text
}

// spoil writes to all memory of the list, also to the room behind it.
func spoil[T any](list []T, with T) {
	for i := range list[:cap(list)] {
		list[:cap(list)][i] = with
	}
}

// The signs of the tests are of the classes that they stand for, and the names are in the order of the classes' numbers.
func TestSigns(t *testing.T) {
	for class, of := range signs() {
		for _, r := range of {
			if props.Of(r).Break != class {
				t.Errorf("%X is of class %d, not %d", r, props.Of(r).Break, class)
			}
		}
	}
	if len(strings.Fields(classNames)) != classes || props.Of(control).Break != api.BrCM || props.Of(control).Cluster != api.ClControl {
		t.Error("the names, or control")
	}
	for i := range props.Rows() {
		if _, p := props.Row(i); p.Break < 0 || p.Break >= classes {
			t.Errorf("row %d has class %d", i, p.Break)
		}
	}
}

// The chapter's own classes and what is derived from them, in texts written by hand: a mistake in what the tests are held against would go unseen elsewhere.
func TestChapterReading(t *testing.T) {
	for _, c := range []struct {
		names               string
		at                  int
		a, s, ownS, ahead   string
		oddRegionals, apart bool
	}{
		{"AL ID", 1, "AL", "AL", "AL", "", false, true},
		{"HL HY CM ID", 3, "HY", "HY", "CM", "HL", false, true},
		{"HL CM BA CM ZWJ ID", 5, "BA", "BA", "ZWJ", "HL", false, true},
		{"OP CM SP SP AL", 4, "SP", "OP", "CM", "SP", false, true},
		{"HL SP x AL", 3, "AL", "AL", "CM", "SP", false, true},
		{"SP SP AL", 2, "SP", "", "", "SP", false, true},
		{"ZW CM SP AL", 3, "SP", "AL", "CM", "AL", false, true},
		{"RI CM RI", 2, "RI", "RI", "CM", "", true, true},
		{"RI CM RI ZWJ RI", 4, "RI", "RI", "ZWJ", "RI", false, true},
		{"AL RI RI RI RI", 4, "RI", "RI", "RI", "RI", true, false},
	} {
		p := spotAt(spelled(c.names), ownClasses(spelled(c.names)), c.at)
		number := func(name string) int {
			if i := slices.Index(strings.Fields(classNames), name); i >= 0 {
				return i
			}
			return nobody
		}
		if p.a != number(c.a) || p.s != number(c.s) || p.ownS != number(c.ownS) || p.ahead != number(c.ahead) || p.oddRegionals != c.oddRegionals || p.joined == c.apart {
			t.Errorf("%s at %d: %+v", c.names, c.at, p)
		}
	}
}
