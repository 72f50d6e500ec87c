package script

import (
	"math"
	"slices"
	"testing"

	"typecase/api"
	"typecase/brackets"
	"typecase/grapheme"
	"typecase/props"
)

// most is the greatest number of elements of a list for which the document promises something (R8).
const most = 1 << 16

// firstScript and lastScript are the ends of the scripts.
const (
	firstScript = api.ScCommon
	lastScript  = api.ScDevanagari
)

// signs returns what the letters of the tests' patterns stand for, and the Script of each. An upper-case letter is a code point that joins the one before it in a cluster, or, for P, the one behind it.
func signs() map[rune]sign {
	return map[rune]sign{
		'l': {'a', api.ScLatin}, 'g': {0x3B1, api.ScGreek}, 'y': {0x430, api.ScCyrillic}, 'h': {0x5D0, api.ScHebrew}, 'a': {0x628, api.ScArabic}, 'c': {0x4E00, api.ScHan},
		'k': {0x3042, api.ScKana}, 'j': {0xAC00, api.ScHangul}, 't': {0xE01, api.ScThai}, 'd': {0x915, api.ScDevanagari},
		'.': {'.', api.ScCommon}, ' ': {' ', api.ScCommon}, '1': {'1', api.ScCommon}, 'n': {'\n', api.ScCommon}, 'x': {0x200E, api.ScCommon}, 'r': {0x202E, api.ScCommon}, 'u': {0x0870, api.ScCommon}, 'e': {0x1F300, api.ScCommon},
		'-': {-1, api.ScCommon}, 's': {0xD800, api.ScCommon}, '+': {0x110000, api.ScCommon},
		'M': {0x301, api.ScInherited}, 'N': {0x5BF, api.ScInherited}, 'Z': {0x200D, api.ScInherited}, 'V': {0xFE0F, api.ScInherited},
		'D': {0x93E, api.ScDevanagari}, 'E': {0x94D, api.ScDevanagari}, 'T': {0xE31, api.ScThai}, 'S': {0xE33, api.ScThai}, 'P': {0x600, api.ScCommon}, 'X': {0x1F3FB, api.ScCommon}, 'J': {0x11A8, api.ScHangul},
		'(': {'(', api.ScCommon}, ')': {')', api.ScCommon}, '[': {'[', api.ScCommon}, ']': {']', api.ScCommon}, '<': {0x2329, api.ScCommon}, '>': {0x232A, api.ScCommon}, 'o': {0x3008, api.ScCommon}, 'q': {0x3009, api.ScCommon},
		'*': {'<', api.ScCommon}, '/': {'>', api.ScCommon}, // no brackets, though each has a Mirror
	}
}

// sign is a code point and its Script.
type sign struct {
	code   rune
	script int
}

// spell returns the text that the pattern stands for.
func spell(pattern string) []rune {
	all := signs()
	var text []rune
	for _, letter := range pattern {
		text = append(text, all[letter].code)
	}
	return text
}

// tell returns the scripts as a pattern: a letter of that script for each, a point for Common.
func tell(scripts []int) string {
	letters := []rune{'.', '!', 'l', 'g', 'y', 'h', 'a', 'c', 'k', 'j', 't', 'd'}
	var told []rune
	for _, script := range scripts {
		told = append(told, letters[script])
	}
	return string(told)
}

// ofCluster returns the own script of the cluster, and whether it has one.
func ofCluster(t []rune, cluster api.Cut) (int, bool) {
	for _, code := range t[cluster.From:cluster.To] {
		switch script := props.Of(code).Script; script {
		case api.ScCommon, api.ScInherited:
		default:
			return script, true
		}
	}
	return api.ScCommon, false
}

// clusterAt returns the number of the cluster that the position is in.
func clusterAt(cuts []api.Cut, at int) int {
	return slices.IndexFunc(cuts, func(c api.Cut) bool { return c.From <= at && at < c.To })
}

// openingAt returns the position of the opening bracket of the pair that is closed at the position, or None.
func openingAt(pairs [][2]int, at int) int {
	for _, pair := range pairs {
		if pair[1] == at {
			return pair[0]
		}
	}
	return api.None
}

// byChapter returns the scripts that the chapter asks for: each cluster looks around by itself for one that has a script.
func byChapter(t []rune) []int {
	cuts, pairs := grapheme.Cuts(t), brackets.Pairs(t, props.Bidi(t))
	first := slices.IndexFunc(cuts, func(c api.Cut) bool {
		_, has := ofCluster(t, c)
		return has
	})
	var scripts []int
	for k, cluster := range cuts {
		script := api.ScCommon
		for at := k; first >= 0; {
			if at < first {
				at = first
			}
			if own, has := ofCluster(t, cuts[at]); has {
				script = own
				break
			}
			if opening := openingAt(pairs, cuts[at].From); opening != api.None {
				at = clusterAt(cuts, opening)
			} else {
				at--
			}
		}
		scripts = append(scripts, slices.Repeat([]int{script}, cluster.To-cluster.From)...)
	}
	return scripts
}

// mainByChapter returns the script that the most of the scripts are, the smallest of several.
func mainByChapter(scripts []int) int {
	best, count := api.ScCommon, 0
	for script := lastScript; script >= firstScript; script-- {
		n := 0
		for _, s := range scripts {
			if s == script {
				n++
			}
		}
		if n > 0 && n >= count {
			best, count = script, n
		}
	}
	return best
}

// sound checks what P14.3 tells about the scripts of the text.
func sound(t *testing.T, text []rune, scripts []int) {
	t.Helper()
	if len(scripts) != len(text) {
		t.Fatalf("%X: there are %d scripts", text, len(scripts))
	}
	for _, cluster := range grapheme.Cuts(text) {
		own, has := ofCluster(text, cluster)
		for _, script := range scripts[cluster.From:cluster.To] {
			if script != scripts[cluster.From] || has && script != own {
				t.Fatalf("%X: %v has a wrong script in the cluster %v", text, scripts, cluster)
			}
		}
	}
	for _, script := range scripts {
		if script < firstScript || script > lastScript || script == api.ScInherited || (script == api.ScCommon) != (scripts[0] == api.ScCommon) {
			t.Fatalf("%X: %v has a wrong script", text, scripts)
		}
	}
}

// agrees checks that the runs cover the scripts, that they are as long as possible, and that they have the scripts.
func agrees(t *testing.T, text []rune, scripts []int, runs []api.Span) {
	t.Helper()
	at := 0
	for k, run := range runs {
		if run.From != at || run.To <= at || run.To > len(scripts) || k > 0 && runs[k-1].Val == run.Val {
			t.Fatalf("%X: the runs %v", text, runs)
		}
		for at < run.To {
			if scripts[at] != run.Val {
				t.Fatalf("%X: the runs %v, but the scripts %v", text, runs, scripts)
			}
			at++
		}
	}
	if at != len(scripts) {
		t.Fatalf("%X: the runs %v end too early", text, runs)
	}
}

// holds checks all that is promised for the text against the chapter.
func holds(t *testing.T, text []rune) {
	t.Helper()
	got := Resolve(text)
	if want := byChapter(text); !slices.Equal(got, want) {
		t.Fatalf("Resolve(%X) = %v, not %v", text, got, want)
	}
	sound(t, text, got)
	agrees(t, text, got, Runs(text))
	if main, want := Main(text), mainByChapter(got); main != want {
		t.Fatalf("Main(%X) = %d, not %d", text, main, want)
	}
}

// strangeRunes are values that are no code points.
func strangeRunes() []rune {
	return []rune{math.MinInt32, math.MinInt32 + 1, -0x5D0, -'a', -2, -1, 0xD800, 0xDBFF, 0xDC00, 0xDFFF, 0x110000, 0x110001, math.MaxInt32 - 1, math.MaxInt32}
}

// lists calls visit with each list of at most longest of the given elements.
func lists[T any](longest int, among []T, visit func(list []T)) {
	count := 1
	for size := range longest + 1 {
		for code := range count {
			list := make([]T, size)
			for i := range list {
				list[i] = among[code%len(among)]
				code /= len(among)
			}
			visit(list)
		}
		count *= len(among)
	}
}

// stream returns a function that returns numbers from 0 up to n, the same ones each time.
func stream() func(n int) int {
	state := uint64(1)
	return func(n int) int {
		state = state*6364136223846793005 + 1442695040888963407
		return int(state >> 33 % uint64(n))
	}
}

// some returns a text of n code points in which few of the given ones occur often.
func some(next func(int) int, n int, among []rune) []rune {
	few := 1 + next(len(among))
	text := make([]rune, n)
	for i := range text {
		text[i] = among[next(few)]
		if next(3) == 0 {
			text[i] = among[next(len(among))]
		}
	}
	return text
}

// spoil writes to all memory of the list, also to the room behind it.
func spoil[T any](list []T, with T) {
	for i := range list[:cap(list)] {
		list[:cap(list)][i] = with
	}
}
