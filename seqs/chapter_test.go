package seqs

import (
	"math"
	"slices"
	"strings"
	"testing"

	"typecase/api"
	"typecase/explicit"
)

// most is the greatest number of elements of a list for which the document promises something (R8).
const most = 1 << 16

// highest is the greatest level of layer 11.
const highest = 125

// strangeClasses are values that are no classes.
func strangeClasses() []int {
	return []int{math.MinInt, -1 << 32, -api.BidiLRI, -api.BidiBN, -2, -1, 0, 24, 25, 1<<8 + api.BidiPDF, 1<<8 + api.BidiFSI, 1<<32 + api.BidiBN, 1<<32 + api.BidiB, 1<<32 + api.BidiRLI, 1<<32 + api.BidiPDI, math.MaxInt}
}

// realClasses returns all classes.
func realClasses() []int {
	var all []int
	for class := api.BidiL; class <= api.BidiPDI; class++ {
		all = append(all, class)
	}
	return all
}

// everyClass returns all classes, and values that are none.
func everyClass() []int { return append(realClasses(), strangeClasses()...) }

func removes(class int) bool {
	return slices.Contains([]int{api.BidiLRE, api.BidiRLE, api.BidiLRO, api.BidiRLO, api.BidiPDF, api.BidiBN}, class)
}

func isolates(class int) bool {
	return slices.Contains([]int{api.BidiLRI, api.BidiRLI, api.BidiFSI}, class)
}

// matchByChapter is the matching of layer 10: each PDI looks back by itself.
func matchByChapter(classes []int) []int {
	matches := slices.Repeat([]int{-1}, len(classes))
	for at, class := range classes {
		for i := at - 1; class == api.BidiPDI && i >= 0 && classes[i] != api.BidiB; i-- {
			if isolates(classes[i]) && matches[i] == -1 {
				matches[i], matches[at] = at, i
				break
			}
		}
	}
	return matches
}

// reading is the chapter read in another way: each code point tells which one comes after it in its sequence, and what no other one leads to begins a sequence.
type reading struct {
	classes, levels, matches []int
	base                     int
}

// beside returns the position of the next code point in the direction of step that is not removed, and its level; or -1 and base.
func (r reading) beside(i, step int) (int, int) {
	for i += step; i >= 0 && i < len(r.classes); i += step {
		if !removes(r.classes[i]) {
			return i, r.levels[i]
		}
	}
	return -1, r.base
}

// after returns what comes after i in its sequence, or -1.
func (r reading) after(i int) int {
	next, level := r.beside(i, 1)
	switch {
	case next != -1 && level == r.levels[i]:
		return next
	case isolates(r.classes[i]):
		return r.matches[i]
	}
	return -1
}

// strong returns R if the greater level is odd, and L otherwise.
func strong(one, other int) int {
	return []int{api.BidiL, api.BidiR}[max(one, other)%2]
}

// sequence returns the sequence that begins at i.
func (r reading) sequence(i int) Seq {
	level := r.levels[i]
	_, before := r.beside(i, -1)
	seq := Seq{Level: level, Sos: strong(level, before)}
	last := i
	for ; i != -1; i = r.after(i) {
		seq.At, last = append(seq.At, i), i
	}
	_, behind := r.beside(last, 1)
	if isolates(r.classes[last]) {
		behind = r.base
	}
	seq.Eos = strong(level, behind)
	return seq
}

// byChapter returns the sequences that the chapter asks for.
func byChapter(classes, levels []int, base int) []Seq {
	r := reading{classes, levels, matchByChapter(classes), base}
	led := make([]bool, len(classes))
	var all []Seq
	for i, class := range classes {
		if removes(class) {
			continue
		}
		if next := r.after(i); next != -1 {
			led[next] = true
		}
		if !led[i] {
			all = append(all, r.sequence(i))
		}
	}
	return all
}

// runsByChapter returns the level runs that the chapter asks for: a code point begins one if there is none of its level before it, and ends one if there is none after it.
func runsByChapter(classes, levels []int) []api.Cut {
	r := reading{classes: classes, levels: levels, base: -1}
	var all []api.Cut
	from := 0
	for i, class := range classes {
		if removes(class) {
			continue
		}
		if _, before := r.beside(i, -1); before != levels[i] {
			from = i
		}
		if _, behind := r.beside(i, 1); behind != levels[i] {
			all = append(all, api.Cut{From: from, To: i + 1})
		}
	}
	return all
}

func sameSeq(a, b Seq) bool {
	return slices.Equal(a.At, b.At) && a.Level == b.Level && a.Sos == b.Sos && a.Eos == b.Eos
}

func sameSeqs(a, b []Seq) bool { return slices.EqualFunc(a, b, sameSeq) }

// sound checks what P12.3 tells about any sequences, and their order.
func sound(t *testing.T, classes, levels []int, all []Seq) {
	t.Helper()
	count := make([]int, len(classes))
	first := -1
	for _, seq := range all {
		if len(seq.At) == 0 || seq.At[0] <= first {
			t.Fatalf("%v at %v: the sequences are out of order or empty: %v", classes, levels, all)
		}
		first = seq.At[0]
		before := -1
		for _, i := range seq.At {
			if i <= before || levels[i] != seq.Level {
				t.Fatalf("%v at %v: the position %d in %v", classes, levels, i, seq)
			}
			before = i
			count[i]++
		}
		if seq.Sos != api.BidiL && seq.Sos != api.BidiR || seq.Eos != api.BidiL && seq.Eos != api.BidiR {
			t.Fatalf("%v at %v: what is beside %v", classes, levels, seq)
		}
	}
	for i, class := range classes {
		if removes(class) != (count[i] == 0) || count[i] > 1 {
			t.Fatalf("%v at %v: %d is in %d sequences", classes, levels, i, count[i])
		}
	}
}

// gives checks Of and Runs of the classes and levels against wanted sequences and runs.
func gives(t *testing.T, classes, levels []int, base int, seqs []Seq, runs []api.Cut) {
	t.Helper()
	got := Of(classes, levels, base)
	if !sameSeqs(got, seqs) {
		t.Fatalf("Of(%v, %v, %d) = %v, not %v", classes, levels, base, got, seqs)
	}
	sound(t, classes, levels, got)
	if got := Runs(classes, levels); !slices.Equal(got, runs) {
		t.Fatalf("Runs(%v, %v) = %v, not %v", classes, levels, got, runs)
	}
}

// holds checks Of and Runs of the classes at both bases against the chapter.
func holds(t *testing.T, classes []int) {
	t.Helper()
	for base := range 2 {
		levels, _ := explicit.Levels(classes, base)
		gives(t, classes, levels, base, byChapter(classes, levels, base), runsByChapter(classes, levels))
	}
}

// letters returns what the letters of the tests' patterns stand for.
func letters() map[rune]int {
	return map[rune]int{
		'L': api.BidiLRE, 'R': api.BidiRLE, 'X': api.BidiLRO, 'Y': api.BidiRLO, 'p': api.BidiPDF, 'x': api.BidiBN,
		'<': api.BidiLRI, '(': api.BidiRLI, '[': api.BidiFSI, ')': api.BidiPDI, 'b': api.BidiB,
		'l': api.BidiL, 'r': api.BidiR, 'a': api.BidiAL, 'e': api.BidiEN, '.': api.BidiON, 'w': api.BidiWS, 's': api.BidiS,
		'?': 24, '!': -1, '-': 0,
	}
}

// spell returns the classes that the pattern stands for.
func spell(pattern string) []int {
	all := letters()
	var classes []int
	for _, letter := range pattern {
		classes = append(classes, all[letter])
	}
	return classes
}

// digits returns the levels that are written as digits.
func digits(text string) []int {
	var levels []int
	for _, digit := range text {
		levels = append(levels, int(digit-'0'))
	}
	return levels
}

// marked returns the positions that bear each letter from a on.
func marked(text string) [][]int {
	var all [][]int
	for letter := byte('a'); strings.IndexByte(text, letter) != -1; letter++ {
		var at []int
		for i := range len(text) {
			if text[i] == letter {
				at = append(at, i)
			}
		}
		all = append(all, at)
	}
	return all
}

// writtenSeqs returns the sequences whose positions bear the letters from a on, with their levels and what is beside them, such as "1rl".
func writtenSeqs(marks, rest string) []Seq {
	var all []Seq
	words := strings.Fields(rest)
	for i, at := range marked(marks) {
		word := words[i]
		all = append(all, Seq{At: at, Level: int(word[0] - '0'), Sos: letters()[rune(word[1])], Eos: letters()[rune(word[2])]})
	}
	return all
}

// writtenRuns returns the runs whose code points bear the letters from a on.
func writtenRuns(marks string) []api.Cut {
	var all []api.Cut
	for _, at := range marked(marks) {
		all = append(all, api.Cut{From: at[0], To: at[len(at)-1] + 1})
	}
	return all
}

// lists calls visit with each list of at most longest of the given elements.
func lists[T any](longest int, among []T, visit func(list []T)) {
	count := 1
	for size := range longest + 1 {
		for code := range count {
			list := make([]T, size)
			for i := range list {
				list[i] = among[code%len(among)]
				code /= len(among)
			}
			visit(list)
		}
		count *= len(among)
	}
}

// stream returns a function that returns numbers from 0 up to n, the same ones each time.
func stream() func(n int) int {
	state := uint64(1)
	return func(n int) int {
		state = state*6364136223846793005 + 1442695040888963407
		return int(state >> 33 % uint64(n))
	}
}

// some returns a list of n classes in which few of the given ones occur often.
func some(next func(int) int, n int, among []int) []int {
	few := 1 + next(len(among))
	classes := make([]int, n)
	for i := range classes {
		classes[i] = among[next(few)]
		if next(3) == 0 {
			classes[i] = among[next(len(among))]
		}
	}
	return classes
}

// spoil writes to all memory of the list, also to the room behind it.
func spoil[T any](list []T, with T) {
	for i := range list[:cap(list)] {
		list[:cap(list)][i] = with
	}
}

// climb returns classes that lead from base up to the level, one by one, by the ways that lead to an odd and to an even one, and end with an L at that level.
func climb(base, level int, odd, even string) []int {
	var classes []int
	for at := base; at < level; at++ {
		classes = append(classes, spell([]string{odd, even}[at%2])...)
	}
	return append(classes, api.BidiL)
}
