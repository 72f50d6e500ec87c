package base

import (
	"math"
	"slices"
	"testing"

	"typecase/api"
)

const (
	low  = math.MinInt
	high = math.MaxInt
)

// most is the greatest number of elements of a list for which the document promises something (R8).
const most = 1 << 16

// separators are the code points of class B of the table of layer 4, written by hand, so that the tests don't lean on another layer.
func separators() []rune { return []rune{0xA, 0xD, 0x1C, 0x1D, 0x1E, 0x85, 0x2029} }

// others are code points of other classes, near the separators and alike, and values that are no code points.
func others() []rune {
	return []rune{
		'a', ' ', '1', '(', 0, 9, 0xB, 0xC, 0xE, 0x1B, 0x1F, 0x84, 0x86, 0xA0, 0x5D0, 0x627, 0x2028, 0x202A, 0x2066, 0x2069, 0x10FFFF,
		-1, -0xA, -0xD, 0x110000, 0x10000A, 0x10000D, 0xD800, 0xDFFF, math.MinInt32, math.MinInt32 + 0xA, math.MaxInt32,
	}
}

func separates(code rune) bool { return slices.Contains(separators(), code) }

// upTo returns the cuts of a text that end at the given positions.
func upTo(ends ...int) []api.Cut {
	var cuts []api.Cut
	from := 0
	for _, end := range ends {
		cuts = append(cuts, api.Cut{From: from, To: end})
		from = end
	}
	return cuts
}

// parasByChapter is the chapter's definition of paragraphs, position by position.
func parasByChapter(text []rune) []api.Cut {
	var ends []int
	for at := 1; at <= len(text); at++ {
		inside := at < len(text) && text[at-1] == 13 && text[at] == 10
		if at == len(text) || separates(text[at-1]) && !inside {
			ends = append(ends, at)
		}
	}
	return upTo(ends...)
}

// wellParted checks P10.5 for the paragraphs of the text.
func wellParted(t *testing.T, text []rune, paras []api.Cut) {
	t.Helper()
	at := 0
	for i, p := range paras {
		if p.From != at || p.To <= p.From || p.To > len(text) {
			t.Fatalf("%X: %v don't cover it", text, paras)
		}
		at = p.To
		if i < len(paras)-1 && !separates(text[at-1]) {
			t.Fatalf("%X: %v ends without a B", text, p)
		}
		for j := p.From; j < p.To-1; j++ {
			if separates(text[j]) && (text[j] != 13 || text[j+1] != 10) {
				t.Fatalf("%X: %v holds a B at %d", text, p, j)
			}
		}
	}
	if at != len(text) {
		t.Fatalf("%X: %v don't reach its end", text, paras)
	}
}

// parted checks the paragraphs of the text.
func parted(t *testing.T, text []rune) {
	t.Helper()
	paras, want := Paras(text), parasByChapter(text)
	if !slices.Equal(paras, want) {
		t.Fatalf("Paras(%X) = %v, not %v", text, paras, want)
	}
	wellParted(t, text, paras)
}

// initiators and strong are classes of the chapter's definitions.
func initiators() []int { return []int{api.BidiLRI, api.BidiRLI, api.BidiFSI} }
func strong() []int     { return []int{api.BidiL, api.BidiR, api.BidiAL} }

func initiates(class int) bool { return slices.Contains(initiators(), class) }

// parts tells whether the class means anything to isolates.
func parts(class int) bool {
	return class == api.BidiB || class == api.BidiPDI || initiates(class)
}

// strangeClasses are values that are no classes.
func strangeClasses() []int {
	return []int{low, -1 << 32, -api.BidiPDI, -2, -1, 0, 24, 25, 1<<8 + api.BidiB, 1<<32 + api.BidiL, 1<<32 + api.BidiB, 1<<32 + api.BidiLRI, 1<<32 + api.BidiPDI, high}
}

// everyClass returns all classes, and values that are none.
func everyClass() []int {
	all := strangeClasses()
	for class := api.BidiL; class <= api.BidiPDI; class++ {
		all = append(all, class)
	}
	return all
}

// matchByChapter is the chapter's definition of matching: each PDI looks back by itself.
func matchByChapter(classes []int) []int {
	matches := slices.Repeat([]int{-1}, len(classes))
	for at, class := range classes {
		for i := at - 1; class == api.BidiPDI && i >= 0 && classes[i] != api.BidiB; i-- {
			if initiates(classes[i]) && matches[i] == -1 {
				matches[i], matches[at] = at, i
				break
			}
		}
	}
	return matches
}

// firstByChapter is the chapter's definition of the first strong class of a sequence.
func firstByChapter(classes []int) int {
	matches := matchByChapter(classes)
	for i := 0; i < len(classes); i++ {
		class := classes[i]
		switch {
		case class == api.BidiB || initiates(class) && matches[i] == -1:
			return 0
		case initiates(class):
			i = matches[i]
		case slices.Contains(strong(), class):
			return class
		}
	}
	return 0
}

// inRange returns the classes of the range that a call of First means, written without the ends of the list as numbers.
func inRange(classes []int, from, to int) []int {
	var part []int
	for i, class := range classes {
		if i >= from && i < to {
			part = append(part, class)
		}
	}
	return part
}

// levelByChapter is what the chapter promises of Level where the first strong class is this one.
func levelByChapter(first int) (int, bool) {
	level, ok := map[int]int{api.BidiL: 0, api.BidiR: 1, api.BidiAL: 1}[first]
	return level, ok
}

// wellMatched checks P10.6 for the matches of the classes.
func wellMatched(t *testing.T, classes, matches []int) {
	t.Helper()
	end := len(classes)
	// The PDIs of the isolates that are open, the innermost last.
	var open []int
	for i, m := range matches {
		switch {
		case m == api.None:
		case m < 0 || m >= end || m == i || matches[m] != i:
			t.Fatalf("%v: %v is not mutual at %d", classes, matches, i)
		case m > i && initiates(classes[i]) && classes[m] == api.BidiPDI:
			if len(open) > 0 && m > open[len(open)-1] {
				t.Fatalf("%v: %v crosses at %d", classes, matches, i)
			}
			open = append(open, m)
		case m < i && len(open) > 0 && open[len(open)-1] == i:
			open = open[:len(open)-1]
		default:
			t.Fatalf("%v: %v has a wrong match at %d", classes, matches, i)
		}
	}
}

// holds checks Match, Level and, for the whole sequence, First.
func holds(t *testing.T, classes []int) {
	t.Helper()
	matches, want := Match(classes), matchByChapter(classes)
	if !slices.Equal(matches, want) {
		t.Fatalf("Match(%v) = %v, not %v", classes, matches, want)
	}
	wellMatched(t, classes, matches)
	first := firstByChapter(classes)
	if got := First(classes, 0, len(classes)); got != first {
		t.Fatalf("First(%v) = %d, not %d", classes, got, first)
	}
	level, ok := levelByChapter(first)
	if got, found := Level(classes); got != level || found != ok {
		t.Fatalf("Level(%v) = %d, %t, not %d, %t", classes, got, found, level, ok)
	}
}

// holdsIn checks First for the range.
func holdsIn(t *testing.T, classes []int, from, to int) {
	t.Helper()
	if got, want := First(classes, from, to), firstByChapter(inRange(classes, from, to)); got != want {
		t.Fatalf("First(%v, %d, %d) = %d, not %d", classes, from, to, got, want)
	}
}

// letters returns what the letters of the tests' patterns stand for.
func letters() map[rune]int {
	return map[rune]int{
		'<': api.BidiLRI, '(': api.BidiRLI, '[': api.BidiFSI, ')': api.BidiPDI, 'b': api.BidiB,
		'l': api.BidiL, 'r': api.BidiR, 'a': api.BidiAL, 'e': api.BidiEN, 'n': api.BidiAN, '.': api.BidiON, 'w': api.BidiWS,
		'm': api.BidiNSM, 's': api.BidiS, '{': api.BidiRLE, '}': api.BidiPDF, '?': 24, '!': -1, '-': 0,
	}
}

// spell returns the classes that the pattern stands for.
func spell(pattern string) []int {
	all := letters()
	var classes []int
	for _, letter := range pattern {
		classes = append(classes, all[letter])
	}
	return classes
}

// lists calls visit with each list of at most longest of the given elements.
func lists[T any](longest int, among []T, visit func(list []T)) {
	count := 1
	for size := range longest + 1 {
		for code := range count {
			list := make([]T, size)
			for i := range list {
				list[i] = among[code%len(among)]
				code /= len(among)
			}
			visit(list)
		}
		count *= len(among)
	}
}

// far returns the numbers from below 0 to above n, and the ends of int.
func far(n int) []int {
	at := []int{low, low + 1, -1 << 32, -9}
	for i := -2; i <= n+2; i++ {
		at = append(at, i)
	}
	return append(at, n+9, 1<<31, 1<<32, high-1, high)
}

// stream returns a function that returns numbers from 0 up to n, the same ones each time.
func stream() func(n int) int {
	state := uint64(1)
	return func(n int) int {
		state = state*6364136223846793005 + 1442695040888963407
		return int(state >> 33 % uint64(n))
	}
}

// spoil writes to all memory of the list, also to the room behind it.
func spoil[T any](list []T, with T) {
	for i := range list[:cap(list)] {
		list[:cap(list)][i] = with
	}
}
