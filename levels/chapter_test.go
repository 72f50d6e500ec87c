package levels

import (
	"math"
	"slices"
	"testing"

	"typecase/api"
	"typecase/brackets"
	"typecase/explicit"
	"typecase/neutral"
	"typecase/props"
	"typecase/seqs"
	"typecase/weak"
)

// most is the greatest number of elements of a list for which the document promises something (R8).
const most = 1 << 16

// highest is the greatest level that the chapter allows.
const highest = 126

// allDirs are the directions.
func allDirs() []int { return []int{api.DirAuto, api.DirLeft, api.DirRight} }

// noDirs are numbers that are no directions.
func noDirs() []int {
	return []int{math.MinInt, -1 << 32, -2, -1, 3, 4, 256, 258, 1 << 32, 1<<32 + 1, 1<<32 + 2, math.MaxInt}
}

// noRunes are values that are no code points.
func noRunes() []rune {
	return []rune{math.MinInt32, -0x5D0, -1, 0xD800, 0xDBFF, 0xDC00, 0xDFFF, 0x110000, 0x110000 + 0x5D0, math.MaxInt32}
}

// letters returns what the letters of the tests' patterns stand for; all else stands for itself.
func letters() map[rune]rune {
	return map[rune]rune{
		'l': 'a', 'r': 0x5D0, 'a': 0x628, 'e': '1', 's': '+', 't': '$', 'n': 0x660, 'c': ',', 'm': 0x301,
		'x': 0xAD, 'b': 0xA, 'k': 0xD, 'q': 0x2029, 'g': 0x9, 'w': ' ', '.': '!',
		'L': 0x202A, 'X': 0x202D, 'R': 0x202B, 'Y': 0x202E, 'P': 0x202C,
		'I': 0x2066, 'J': 0x2067, 'F': 0x2068, 'D': 0x2069,
		'<': 0x2329, '>': 0x232A, 'o': 0x3008, 'u': 0x3009, // the angle brackets, old and new
	}
}

// spell returns the text that the pattern stands for.
func spell(pattern string) []rune {
	all := letters()
	var t []rune
	for _, letter := range pattern {
		if code, ok := all[letter]; ok {
			letter = code
		}
		t = append(t, letter)
	}
	return t
}

// digits returns the levels that are written as digits.
func digits(text string) []int {
	var levels []int
	for _, digit := range text {
		levels = append(levels, int(digit-'0'))
	}
	return levels
}

// among tells whether the class is one of the given ones.
func among(class int, all ...int) bool { return slices.Contains(all, class) }

func removes(class int) bool {
	return among(class, api.BidiLRE, api.BidiLRO, api.BidiRLE, api.BidiRLO, api.BidiPDF, api.BidiBN)
}

func isolates(class int) bool { return among(class, api.BidiLRI, api.BidiRLI, api.BidiFSI) }

// classOf is the Bidi class of one code point.
func classOf(r rune) int { return props.Of(r).Bidi }

// parasByChapter returns the paragraphs of layer 10: a position begins one if what is before it is of class B and is not a CR before LF.
func parasByChapter(t []rune) []api.Cut {
	var starts []int
	for i := range t {
		if i == 0 || classOf(t[i-1]) == api.BidiB && !(t[i-1] == 0xD && t[i] == 0xA) {
			starts = append(starts, i)
		}
	}
	var paras []api.Cut
	for k, from := range starts {
		to := len(t)
		if k+1 < len(starts) {
			to = starts[k+1]
		}
		paras = append(paras, api.Cut{From: from, To: to})
	}
	return paras
}

// windowByChapter returns the paragraph that Window is asked for: the last one that begins no later than the position.
func windowByChapter(t []rune, at int) api.Cut {
	var found api.Cut
	for _, para := range parasByChapter(t) {
		if at >= 0 && at <= len(t) && para.From <= at {
			found = para
		}
	}
	return found
}

// baseByChapter returns the level that Base is asked for.
func baseByChapter(t []rune, dir int) int {
	if dir == api.DirLeft || dir == api.DirRight {
		return dir - 1
	}
	open := 0
	for _, r := range t {
		switch class := classOf(r); {
		case class == api.BidiB:
			return 0
		case isolates(class):
			open++
		case class == api.BidiPDI && open > 0:
			open--
		case open == 0 && among(class, api.BidiL, api.BidiR, api.BidiAL):
			return min(class-api.BidiL, 1)
		}
	}
	return 0
}

// stepByStep returns the levels of a paragraph as the chapter defines them, by the layers that it names.
func stepByStep(t []rune, level int) []int {
	own := props.Bidi(t)
	high, classes := explicit.Levels(own, level)
	resolved := map[int]int{}
	for _, seq := range seqs.Of(own, high, level) {
		var text []rune
		var within []int
		for _, i := range seq.At {
			text, within = append(text, t[i]), append(within, classes[i])
		}
		after13 := weak.Weak(within, seq.Sos)
		after9 := brackets.Resolve(text, after13, seq.Level, seq.Sos)
		after15 := neutral.Neutral(after9, seq.Level, seq.Sos, seq.Eos)
		for k, implicit := range neutral.Implicit(after15, seq.Level) {
			resolved[seq.At[k]] = implicit
		}
	}
	levels := make([]int, len(t))
	for i := range t {
		kept := i
		for kept >= 0 && removes(own[kept]) {
			kept--
		}
		levels[i] = level
		if kept >= 0 {
			levels[i] = resolved[kept]
		}
	}
	return levels
}

// lineByChapter returns what Line is asked for: each code point of the range looks ahead by itself for what follows the sequence that it may be in.
func lineByChapter(t []rune, levels []int, level, from, to int) []int {
	var line []int
	for i := from; i < to; i++ {
		end := i
		for end < to && (among(classOf(t[end]), api.BidiWS, api.BidiPDI) || isolates(classOf(t[end])) || removes(classOf(t[end]))) {
			end++
		}
		if end == to || among(classOf(t[end]), api.BidiB, api.BidiS) {
			line = append(line, level)
		} else {
			line = append(line, levels[i])
		}
	}
	return line
}

// runsByChapter returns what Runs is asked for: a span begins where the level differs from the one before.
func runsByChapter(levels []int) []api.Span {
	var runs []api.Span
	for from := 0; from < len(levels); {
		to := from
		for to < len(levels) && levels[to] == levels[from] {
			to++
		}
		runs = append(runs, api.Span{From: from, To: to, Val: levels[from]})
		from = to
	}
	return runs
}

// readable is the length up to which texts are also gone through by the rules alone, where each code point looks around by itself.
const readable = 600

// holds checks Of of a paragraph in each direction, against the layers step by step and against their rules.
func holds(t *testing.T, text []rune) {
	t.Helper()
	for _, dir := range allDirs() {
		level := baseByChapter(text, dir)
		got, base, e := Of(text, dir)
		if e != api.OK || base != level {
			t.Fatalf("Of(%X, %d): base %d and %v, not %d", text, dir, base, e, level)
		}
		if want := stepByStep(text, level); !slices.Equal(got, want) {
			t.Fatalf("Of(%X, %d) = %v, step by step %v", text, dir, got, want)
		}
		if len(text) <= readable && !slices.Equal(got, byRules(text, level)) {
			t.Fatalf("Of(%X, %d) = %v, by the rules %v", text, dir, got, byRules(text, level))
		}
		sound(t, text, dir, got, base)
	}
}

// sound checks what P16.5 tells about levels of a paragraph.
func sound(t *testing.T, text []rune, dir int, levels []int, base int) {
	t.Helper()
	if len(levels) != len(text) {
		t.Fatalf("Of(%X, %d): there are %d levels", text, dir, len(levels))
	}
	plain := dir == api.DirLeft
	for i, r := range text {
		if levels[i] < base || levels[i] > highest {
			t.Fatalf("Of(%X, %d): the levels %v in a paragraph of level %d", text, dir, levels, base)
		}
		class := classOf(r)
		if among(class, api.BidiR, api.BidiAL, api.BidiAN, api.BidiPDI) || isolates(class) || removes(class) && class != api.BidiBN {
			plain = false
		}
	}
	if plain && slices.Max(append([]int{0}, levels...)) != 0 {
		t.Fatalf("Of(%X, %d): the levels %v of a plain text", text, dir, levels)
	}
}

// lists calls visit with each list of at most longest of the given elements.
func lists[T any](longest int, among []T, visit func(list []T)) {
	count := 1
	for size := range longest + 1 {
		for code := range count {
			list := make([]T, size)
			for i := range list {
				list[i] = among[code%len(among)]
				code /= len(among)
			}
			visit(list)
		}
		count *= len(among)
	}
}

// stream returns a function that returns numbers from 0 up to n, the same ones each time.
func stream() func(n int) int {
	state := uint64(1)
	return func(n int) int {
		state = state*6364136223846793005 + 1442695040888963407
		return int(state >> 33 % uint64(n))
	}
}

// some returns a list of n elements in which few of the given ones occur often.
func some[T any](next func(int) int, n int, among []T) []T {
	few := 1 + next(len(among))
	list := make([]T, n)
	for i := range list {
		list[i] = among[next(few)]
		if next(3) == 0 {
			list[i] = among[next(len(among))]
		}
	}
	return list
}

// spoil writes to all memory of the list, also to the room behind it.
func spoil[T any](list []T, with T) {
	for i := range list[:cap(list)] {
		list[:cap(list)][i] = with
	}
}
