package weak

import (
	"math"
	"slices"
	"testing"

	"typecase/api"
)

// most is the greatest number of elements of a list for which the document promises something (R8).
const most = 1 << 16

// strangeClasses are values that are no classes.
func strangeClasses() []int {
	return []int{math.MinInt, -1 << 32, -api.BidiEN, -api.BidiL, 0, 24, 25, 100, 1<<8 + api.BidiNSM, 1<<8 + api.BidiEN, 1<<32 + api.BidiL, 1<<32 + api.BidiR, 1<<32 + api.BidiAL, 1<<32 + api.BidiET, 1<<32 + api.BidiCS, 1<<32 + api.BidiPDI, math.MaxInt}
}

// realClasses returns all classes.
func realClasses() []int {
	var all []int
	for class := api.BidiL; class <= api.BidiPDI; class++ {
		all = append(all, class)
	}
	return all
}

// everyClass returns all classes, and values that are none.
func everyClass() []int { return append(realClasses(), strangeClasses()...) }

// bothStarts are the classes that may stand at the start.
func bothStarts() []int { return []int{api.BidiL, api.BidiR} }

func isolates(class int) bool {
	return slices.Contains([]int{api.BidiLRI, api.BidiRLI, api.BidiFSI, api.BidiPDI}, class)
}

func turns(class int) bool {
	return slices.Contains([]int{api.BidiNSM, api.BidiAL, api.BidiES, api.BidiET, api.BidiCS}, class)
}

// nearest returns the nearest class among the given ones before the position i, or sos if there is none.
func nearest(classes []int, i, sos int, among ...int) int {
	for i--; i >= 0; i-- {
		if slices.Contains(among, classes[i]) {
			return classes[i]
		}
	}
	return sos
}

// at returns the class at the position i, or 0 if there is none.
func at(classes []int, i int) int {
	if i < 0 || i >= len(classes) {
		return 0
	}
	return classes[i]
}

// each returns what the rule makes of each class of the list, each told by the whole list as it was.
func each(classes []int, rule func(i int) int) []int {
	var changed []int
	for i := range classes {
		changed = append(changed, rule(i))
	}
	return changed
}

// w1ByChapter: an NSM goes back to the first code point that is none.
func w1ByChapter(classes []int, sos int) []int {
	return each(classes, func(i int) int {
		if classes[i] != api.BidiNSM {
			return classes[i]
		}
		for i >= 0 && classes[i] == api.BidiNSM {
			i--
		}
		switch {
		case i < 0:
			return sos
		case isolates(classes[i]) || !slices.Contains(realClasses(), classes[i]):
			return api.BidiON
		}
		return classes[i]
	})
}

func w2ByChapter(classes []int, sos int) []int {
	return each(classes, func(i int) int {
		if classes[i] == api.BidiEN && nearest(classes, i, sos, api.BidiL, api.BidiR, api.BidiAL) == api.BidiAL {
			return api.BidiAN
		}
		return classes[i]
	})
}

// w4ByChapter reads what is beside a separator as it was: the rule changes no two that are beside each other.
func w4ByChapter(classes []int) []int {
	return each(classes, func(i int) int {
		switch [3]int{at(classes, i-1), classes[i], at(classes, i+1)} {
		case [3]int{api.BidiEN, api.BidiES, api.BidiEN}, [3]int{api.BidiEN, api.BidiCS, api.BidiEN}:
			return api.BidiEN
		case [3]int{api.BidiAN, api.BidiCS, api.BidiAN}:
			return api.BidiAN
		}
		return classes[i]
	})
}

// w5ByChapter: each ET goes to both ends of the sequence of them that it is in.
func w5ByChapter(classes []int) []int {
	return each(classes, func(i int) int {
		from, to := i, i
		for at(classes, from) == api.BidiET {
			from--
		}
		for at(classes, to) == api.BidiET {
			to++
		}
		if classes[i] == api.BidiET && (at(classes, from) == api.BidiEN || at(classes, to) == api.BidiEN) {
			return api.BidiEN
		}
		return classes[i]
	})
}

func w7ByChapter(classes []int, sos int) []int {
	return each(classes, func(i int) int {
		if classes[i] == api.BidiEN && nearest(classes, i, sos, api.BidiL, api.BidiR) == api.BidiL {
			return api.BidiL
		}
		return classes[i]
	})
}

// all returns the classes with those of the given ones turned into another.
func all(classes []int, into int, among ...int) []int {
	return each(classes, func(i int) int {
		if slices.Contains(among, classes[i]) {
			return into
		}
		return classes[i]
	})
}

// byChapter returns the classes that the chapter asks for: its rules read in another way, each code point looking around by itself.
func byChapter(classes []int, sos int) []int {
	classes = w2ByChapter(w1ByChapter(classes, sos), sos)
	classes = all(classes, api.BidiR, api.BidiAL)
	classes = w5ByChapter(w4ByChapter(classes))
	classes = all(classes, api.BidiON, api.BidiES, api.BidiET, api.BidiCS)
	return w7ByChapter(classes, sos)
}

// sound checks what P13.3 tells about the result of Weak.
func sound(t *testing.T, classes []int, sos int, got []int) {
	t.Helper()
	if len(got) != len(classes) {
		t.Fatalf("Weak(%v, %d): there are %d classes", classes, sos, len(got))
	}
	for i, class := range classes {
		if turns(got[i]) || !turns(class) && class != api.BidiEN && got[i] != class {
			t.Fatalf("Weak(%v, %d): the class %d at %d", classes, sos, got[i], i)
		}
	}
}

// holds checks all that is promised for the classes against the chapter's rules, with each class at the start.
func holds(t *testing.T, classes []int) {
	t.Helper()
	for _, sos := range bothStarts() {
		got := Weak(classes, sos)
		if want := byChapter(classes, sos); !slices.Equal(got, want) {
			t.Fatalf("Weak(%v, %d) = %v, not %v", classes, sos, got, want)
		}
		sound(t, classes, sos, got)
		if got, want := W1(classes, sos), w1ByChapter(classes, sos); !slices.Equal(got, want) {
			t.Fatalf("W1(%v, %d) = %v, not %v", classes, sos, got, want)
		}
	}
	if got, want := W4(classes), w4ByChapter(classes); !slices.Equal(got, want) {
		t.Fatalf("W4(%v) = %v, not %v", classes, got, want)
	}
	if got, want := W5(classes), w5ByChapter(classes); !slices.Equal(got, want) {
		t.Fatalf("W5(%v) = %v, not %v", classes, got, want)
	}
}

// letters returns what the letters of the tests' patterns stand for.
func letters() map[rune]int {
	return map[rune]int{
		'l': api.BidiL, 'r': api.BidiR, 'a': api.BidiAL, 'e': api.BidiEN, 's': api.BidiES, 't': api.BidiET, 'n': api.BidiAN, 'c': api.BidiCS, 'm': api.BidiNSM,
		'x': api.BidiBN, 'b': api.BidiB, 'g': api.BidiS, 'w': api.BidiWS, '.': api.BidiON,
		'L': api.BidiLRE, 'X': api.BidiLRO, 'R': api.BidiRLE, 'Y': api.BidiRLO, 'p': api.BidiPDF,
		'<': api.BidiLRI, '(': api.BidiRLI, '[': api.BidiFSI, ')': api.BidiPDI,
		'?': 24, '!': -1, '-': 0,
	}
}

// spell returns the classes that the pattern stands for.
func spell(pattern string) []int {
	all := letters()
	var classes []int
	for _, letter := range pattern {
		classes = append(classes, all[letter])
	}
	return classes
}

// lists calls visit with each list of at most longest of the given elements.
func lists[T any](longest int, among []T, visit func(list []T)) {
	count := 1
	for size := range longest + 1 {
		for code := range count {
			list := make([]T, size)
			for i := range list {
				list[i] = among[code%len(among)]
				code /= len(among)
			}
			visit(list)
		}
		count *= len(among)
	}
}

// stream returns a function that returns numbers from 0 up to n, the same ones each time.
func stream() func(n int) int {
	state := uint64(1)
	return func(n int) int {
		state = state*6364136223846793005 + 1442695040888963407
		return int(state >> 33 % uint64(n))
	}
}

// some returns a list of n classes in which few of the given ones occur often.
func some(next func(int) int, n int, among []int) []int {
	few := 1 + next(len(among))
	classes := make([]int, n)
	for i := range classes {
		classes[i] = among[next(few)]
		if next(3) == 0 {
			classes[i] = among[next(len(among))]
		}
	}
	return classes
}

// spoil writes to all memory of the list, also to the room behind it.
func spoil(list []int, with int) {
	for i := range list[:cap(list)] {
		list[:cap(list)][i] = with
	}
}
