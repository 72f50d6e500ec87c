package neutral

import (
	"math"
	"slices"
	"testing"

	"typecase/api"
)

// most is the greatest number of elements of a list for which the document promises something (R8).
const most = 1 << 16

// kinds tells of each class from L to PDI which direction it has, or that it is neutral.
const kinds = "LRRRLLRLLL....LLLLL...."

// strangeClasses are values that are no classes.
func strangeClasses() []int {
	return []int{math.MinInt, -1 << 32, -api.BidiWS, -api.BidiR, -1, 0, 24, 25, 100, 1<<8 + api.BidiR, 1<<8 + api.BidiON, 1<<32 + api.BidiR, 1<<32 + api.BidiAL, 1<<32 + api.BidiEN, 1<<32 + api.BidiWS, 1<<32 + api.BidiPDI, math.MaxInt}
}

// everyClass returns all classes, and values that are none.
func everyClass() []int {
	var all []int
	for class := api.BidiL; class <= api.BidiPDI; class++ {
		all = append(all, class)
	}
	return append(all, strangeClasses()...)
}

// kind returns the direction of the class as a letter, or a point if it is neutral.
func kind(class int) byte {
	if class < api.BidiL || class > api.BidiPDI {
		return 'L'
	}
	return kinds[class-api.BidiL]
}

// ofKind returns those of all classes, and of the values that are none, that are neutral, or those that are not.
func ofKind(neutral bool) []int {
	return slices.DeleteFunc(everyClass(), func(class int) bool { return (kind(class) == '.') != neutral })
}

// evenLevels and oddLevels are levels of all sizes, as far as what is above them is an int.
func evenLevels() []int {
	return []int{0, 2, 4, 124, 126, 1 << 16, 1 << 32, math.MaxInt - 3, -2, -4, -126, -1 << 32, math.MinInt}
}

func oddLevels() []int {
	return []int{1, 3, 5, 123, 125, 1<<16 + 1, 1<<32 + 1, math.MaxInt - 2, -1, -3, -125, -1<<32 + 1, math.MinInt + 1}
}

func allLevels() []int { return append(evenLevels(), oddLevels()...) }

// bothEnds are the classes that may stand at an end.
func bothEnds() []int { return []int{api.BidiL, api.BidiR} }

// neutralByChapter returns what Neutral is asked for: each neutral class looks by itself for the nearest other one on each side.
func neutralByChapter(classes []int, level, sos, eos int) []int {
	strong := map[bool]byte{false: 'L', true: 'R'}
	class := map[byte]int{'L': api.BidiL, 'R': api.BidiR}
	var resolved []int
	for i, own := range classes {
		if kind(own) != '.' {
			resolved = append(resolved, own)
			continue
		}
		before, after := strong[sos == api.BidiR], strong[eos == api.BidiR]
		for k := range i {
			if kind(classes[k]) != '.' {
				before = kind(classes[k])
			}
		}
		for k := len(classes) - 1; k > i; k-- {
			if kind(classes[k]) != '.' {
				after = kind(classes[k])
			}
		}
		if before != after {
			before = strong[level&1 == 1]
		}
		resolved = append(resolved, class[before])
	}
	return resolved
}

// implicitByChapter returns what Implicit is asked for.
func implicitByChapter(classes []int, level int) []int {
	above := map[int][2]int{api.BidiL: {0, 1}, api.BidiR: {1, 0}, api.BidiEN: {2, 1}, api.BidiAN: {2, 1}}
	var levels []int
	for _, class := range classes {
		levels = append(levels, level+above[class][level&1])
	}
	return levels
}

// sound checks what P15.3 tells about the result of Neutral.
func sound(t *testing.T, classes []int, level, sos, eos int) {
	t.Helper()
	once := Neutral(classes, level, sos, eos)
	if len(once) != len(classes) || slices.ContainsFunc(once, func(class int) bool { return kind(class) == '.' }) {
		t.Fatalf("Neutral(%v, %d, %d, %d) = %v", classes, level, sos, eos, once)
	}
	if twice := Neutral(once, level, sos, eos); !slices.Equal(once, twice) {
		t.Fatalf("Neutral(%v, %d, %d, %d): %v, then %v", classes, level, sos, eos, once, twice)
	}
}

// near checks what P15.4 tells about the result of Implicit.
func near(t *testing.T, classes []int, level int) {
	t.Helper()
	levels := Implicit(classes, level)
	if len(levels) != len(classes) {
		t.Fatalf("Implicit(%v, %d) = %v", classes, level, levels)
	}
	if len(levels) > 0 && (slices.Min(levels) < level || slices.Max(levels)-slices.Min(levels) > 2) {
		t.Fatalf("Implicit(%v, %d) = %v", classes, level, levels)
	}
}

// holds checks both functions at the level against the chapter, with each class at either end.
func holds(t *testing.T, classes []int, level int) {
	t.Helper()
	for _, sos := range bothEnds() {
		for _, eos := range bothEnds() {
			got, want := Neutral(classes, level, sos, eos), neutralByChapter(classes, level, sos, eos)
			if !slices.Equal(got, want) {
				t.Fatalf("Neutral(%v, %d, %d, %d) = %v, not %v", classes, level, sos, eos, got, want)
			}
		}
	}
	if got, want := Implicit(classes, level), implicitByChapter(classes, level); !slices.Equal(got, want) {
		t.Fatalf("Implicit(%v, %d) = %v, not %v", classes, level, got, want)
	}
}

// letters returns what the letters of the tests' patterns stand for.
func letters() map[rune]int {
	return map[rune]int{
		'l': api.BidiL, 'r': api.BidiR, 'a': api.BidiAL, 'e': api.BidiEN, 's': api.BidiES, 't': api.BidiET, 'n': api.BidiAN, 'c': api.BidiCS, 'm': api.BidiNSM,
		'x': api.BidiBN, 'b': api.BidiB, 'g': api.BidiS, 'w': api.BidiWS, '.': api.BidiON,
		'L': api.BidiLRE, 'X': api.BidiLRO, 'R': api.BidiRLE, 'Y': api.BidiRLO, 'p': api.BidiPDF,
		'<': api.BidiLRI, '(': api.BidiRLI, '[': api.BidiFSI, ')': api.BidiPDI,
		'?': 24, '!': -1, '-': 0,
	}
}

// spell returns the classes that the pattern stands for.
func spell(pattern string) []int {
	all := letters()
	var classes []int
	for _, letter := range pattern {
		classes = append(classes, all[letter])
	}
	return classes
}

// lists calls visit with each list of at most longest of the given elements.
func lists[T any](longest int, among []T, visit func(list []T)) {
	count := 1
	for size := range longest + 1 {
		for code := range count {
			list := make([]T, size)
			for i := range list {
				list[i] = among[code%len(among)]
				code /= len(among)
			}
			visit(list)
		}
		count *= len(among)
	}
}

// stream returns a function that returns numbers from 0 up to n, the same ones each time.
func stream() func(n int) int {
	state := uint64(1)
	return func(n int) int {
		state = state*6364136223846793005 + 1442695040888963407
		return int(state >> 33 % uint64(n))
	}
}

// some returns a list of n classes in which few of the given ones occur often.
func some(next func(int) int, n int, among []int) []int {
	few := 1 + next(len(among))
	classes := make([]int, n)
	for i := range classes {
		classes[i] = among[next(few)]
		if next(3) == 0 {
			classes[i] = among[next(len(among))]
		}
	}
	return classes
}

// spoil writes to all memory of the list, also to the room behind it.
func spoil(list []int, with int) {
	for i := range list[:cap(list)] {
		list[:cap(list)][i] = with
	}
}
