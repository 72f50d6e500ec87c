package explicit

import (
	"math"
	"slices"
	"testing"

	"typecase/api"
)

// most is the greatest number of elements of a list for which the document promises something (R8).
const most = 1 << 16

// highest is the chapter's maximum depth.
const highest = 125

// strangeClasses are values that are no classes.
func strangeClasses() []int {
	return []int{math.MinInt, -1 << 32, -api.BidiRLE, -api.BidiB, -2, -1, 0, 24, 25, 1<<8 + api.BidiRLO, 1<<32 + api.BidiBN, 1<<32 + api.BidiB, 1<<32 + api.BidiRLI, 1<<32 + api.BidiPDI, 1<<32 + api.BidiPDF, math.MaxInt}
}

// realClasses returns all classes.
func realClasses() []int {
	var all []int
	for class := api.BidiL; class <= api.BidiPDI; class++ {
		all = append(all, class)
	}
	return all
}

// everyClass returns all classes, and values that are none.
func everyClass() []int { return append(realClasses(), strangeClasses()...) }

func removedClasses() []int {
	return []int{api.BidiLRE, api.BidiRLE, api.BidiLRO, api.BidiRLO, api.BidiPDF, api.BidiBN}
}

func removes(class int) bool { return slices.Contains(removedClasses(), class) }

func embeds(class int) bool {
	return slices.Contains([]int{api.BidiLRE, api.BidiRLE, api.BidiLRO, api.BidiRLO}, class)
}

func isolates(class int) bool {
	return slices.Contains([]int{api.BidiLRI, api.BidiRLI, api.BidiFSI}, class)
}

// parts tells whether the class means anything to isolates.
func parts(class int) bool {
	return class == api.BidiB || class == api.BidiPDI || isolates(class)
}

// matchByChapter is the matching of layer 10: each PDI looks back by itself.
func matchByChapter(classes []int) []int {
	matches := slices.Repeat([]int{-1}, len(classes))
	for at, class := range classes {
		for i := at - 1; class == api.BidiPDI && i >= 0 && classes[i] != api.BidiB; i-- {
			if isolates(classes[i]) && matches[i] == -1 {
				matches[i], matches[at] = at, i
				break
			}
		}
	}
	return matches
}

// firstByChapter is the first strong class of layer 10, or 0 if there is none.
func firstByChapter(classes []int) int {
	matches := matchByChapter(classes)
	for i := 0; i < len(classes); i++ {
		class := classes[i]
		switch {
		case class == api.BidiB || isolates(class) && matches[i] == -1:
			return 0
		case isolates(class):
			i = matches[i]
		case class == api.BidiL || class == api.BidiR || class == api.BidiAL:
			return class
		}
	}
	return 0
}

// odd tells whether what begins with the class, before the content, is to have an odd level.
func odd(class int, content []int) bool {
	switch class {
	case api.BidiRLE, api.BidiRLO, api.BidiRLI:
		return true
	case api.BidiFSI:
		first := firstByChapter(content)
		return first == api.BidiR || first == api.BidiAL
	}
	return false
}

// nextLevel returns the least odd or even level above the level.
func nextLevel(level int, odd bool) int {
	for level++; (level%2 == 1) != odd; level++ {
	}
	return level
}

// reading is the chapter's rules read in another way: isolates are gone through one within another, each with the embeddings of its own, and an isolate that overflows is all of one level.
type reading struct {
	classes, matches []int
	base             int
	levels, shown    []int
}

// held is what holds for characters in an embedding: its level, and its override, 0 for none.
type held struct{ level, override int }

// put gives the character at i what holds for it.
func (r *reading) put(i int, h held) {
	class, before := r.classes[i], r.base
	if i > 0 {
		before = r.levels[i-1]
	}
	switch {
	case removes(class):
		r.levels[i], r.shown[i] = before, api.BidiBN
	case h.override != 0:
		r.levels[i], r.shown[i] = h.level, h.override
	default:
		r.levels[i], r.shown[i] = h.level, class
	}
}

// within goes through the range, which is a paragraph or what an isolate contains.
func (r *reading) within(from, to, level int) {
	open, over := []held{{level: level}}, 0
	for i := from; i < to; i++ {
		class, last := r.classes[i], open[len(open)-1]
		r.put(i, last)
		switch {
		case embeds(class):
			override := map[int]int{api.BidiLRO: api.BidiL, api.BidiRLO: api.BidiR}[class]
			next := nextLevel(last.level, odd(class, nil))
			if next <= highest && over == 0 {
				open = append(open, held{next, override})
			} else {
				over++
			}
		case class == api.BidiPDF && over > 0:
			over--
		case class == api.BidiPDF && len(open) > 1:
			open = open[:len(open)-1]
		case isolates(class):
			i = r.isolate(i, to, last, over > 0) - 1
		}
	}
}

// isolate goes through what the initiator at i isolates and returns where that ends.
func (r *reading) isolate(i, to int, last held, over bool) int {
	if r.matches[i] != -1 {
		to = r.matches[i]
	}
	next := nextLevel(last.level, odd(r.classes[i], r.classes[i+1:to]))
	if next <= highest && !over {
		r.within(i+1, to, next)
		return to
	}
	for j := i + 1; j < to; j++ {
		r.put(j, last)
	}
	return to
}

// byChapter returns the levels and the classes that the chapter asks for.
func byChapter(classes []int, base int) ([]int, []int) {
	n := len(classes)
	r := reading{classes, matchByChapter(classes), base, make([]int, n), make([]int, n)}
	from := 0
	for i, class := range classes {
		if class == api.BidiB {
			r.within(from, i, base)
			r.put(i, held{level: base})
			from = i + 1
		}
	}
	r.within(from, n, base)
	return r.levels, r.shown
}

// sound checks what P11.5 tells about any levels and classes.
func sound(t *testing.T, classes []int, base int, levels, shown []int) {
	t.Helper()
	if len(levels) != len(classes) || len(shown) != len(classes) {
		t.Fatalf("%v at %d: there are %d levels and %d classes", classes, base, len(levels), len(shown))
	}
	for i, class := range classes {
		turned := shown[i] == api.BidiL || shown[i] == api.BidiR
		switch {
		case levels[i] < base || levels[i] > highest:
			t.Fatalf("%v at %d: the level %d at %d", classes, base, levels[i], i)
		case removes(class) && shown[i] != api.BidiBN, !removes(class) && shown[i] != class && !turned:
			t.Fatalf("%v at %d: the class %d at %d", classes, base, shown[i], i)
		}
	}
}

// gives checks Levels and Depth of the classes at the base against wanted ones.
func gives(t *testing.T, classes []int, base int, levels, shown []int) {
	t.Helper()
	gotLevels, gotShown := Levels(classes, base)
	if !slices.Equal(gotLevels, levels) || !slices.Equal(gotShown, shown) {
		t.Fatalf("Levels(%v, %d) = %v, %v, not %v, %v", classes, base, gotLevels, gotShown, levels, shown)
	}
	sound(t, classes, base, gotLevels, gotShown)
	depth := base
	for _, level := range levels {
		depth = max(depth, level)
	}
	if got := Depth(classes, base); got != depth {
		t.Fatalf("Depth(%v, %d) = %d, not %d", classes, base, got, depth)
	}
}

// holds checks Levels and Depth of the classes at both bases against the chapter's rules.
func holds(t *testing.T, classes []int) {
	t.Helper()
	for base := range 2 {
		levels, shown := byChapter(classes, base)
		gives(t, classes, base, levels, shown)
	}
}

// letters returns what the letters of the tests' patterns stand for.
func letters() map[rune]int {
	return map[rune]int{
		'L': api.BidiLRE, 'R': api.BidiRLE, 'X': api.BidiLRO, 'Y': api.BidiRLO, 'p': api.BidiPDF, 'x': api.BidiBN,
		'<': api.BidiLRI, '(': api.BidiRLI, '[': api.BidiFSI, ')': api.BidiPDI, 'b': api.BidiB,
		'l': api.BidiL, 'r': api.BidiR, 'a': api.BidiAL, 'e': api.BidiEN, 'n': api.BidiAN, '.': api.BidiON, 'w': api.BidiWS, 'm': api.BidiNSM, 's': api.BidiS, 't': api.BidiET,
		'?': 24, '!': -1, '-': 0,
	}
}

// spell returns the classes that the pattern stands for.
func spell(pattern string) []int {
	all := letters()
	var classes []int
	for _, letter := range pattern {
		classes = append(classes, all[letter])
	}
	return classes
}

// digits returns the levels that are written as digits.
func digits(text string) []int {
	var levels []int
	for _, digit := range text {
		levels = append(levels, int(digit-'0'))
	}
	return levels
}

// lists calls visit with each list of at most longest of the given elements.
func lists[T any](longest int, among []T, visit func(list []T)) {
	count := 1
	for size := range longest + 1 {
		for code := range count {
			list := make([]T, size)
			for i := range list {
				list[i] = among[code%len(among)]
				code /= len(among)
			}
			visit(list)
		}
		count *= len(among)
	}
}

// stream returns a function that returns numbers from 0 up to n, the same ones each time.
func stream() func(n int) int {
	state := uint64(1)
	return func(n int) int {
		state = state*6364136223846793005 + 1442695040888963407
		return int(state >> 33 % uint64(n))
	}
}

// some returns a list of n classes in which few of the given ones occur often.
func some(next func(int) int, n int, among []int) []int {
	few := 1 + next(len(among))
	classes := make([]int, n)
	for i := range classes {
		classes[i] = among[next(few)]
		if next(3) == 0 {
			classes[i] = among[next(len(among))]
		}
	}
	return classes
}

// spoil writes to all memory of the list, also to the room behind it.
func spoil(list []int, with int) {
	for i := range list[:cap(list)] {
		list[:cap(list)][i] = with
	}
}

// steps are the ways to go up by one level: what leads to an odd one, and what to an even one.
func steps() map[string][2][]int {
	return map[string][2][]int{
		"embeddings": {spell("R"), spell("L")}, "overrides": {spell("Y"), spell("X")}, "isolates": {spell("("), spell("<")}, "first strong isolates": {spell("[r"), spell("[l")}, "first Arabic isolates": {spell("[.a"), spell("[x")},
	}
}

// climb returns classes that lead from base up to the level, one by one, and end with an L at that level. The way of each step is asked for.
func climb(base, level int, way func(i int) [2][]int) []int {
	var classes []int
	for at := base; at < level; at++ {
		classes = append(classes, way(at)[at%2]...)
	}
	return append(classes, api.BidiL)
}

// mixed is a way that takes another kind of step each time.
func mixed(i int) [2][]int {
	return steps()[[]string{"embeddings", "isolates", "overrides", "first strong isolates", "isolates", "overrides", "embeddings"}[i%7]]
}

// climbs returns the classes that lead from base to the level in each way.
func climbs(base, level int) map[string][]int {
	all := map[string][]int{"mixed": climb(base, level, mixed)}
	for name, step := range steps() {
		all[name] = climb(base, level, func(int) [2][]int { return step })
	}
	return all
}
