package buffer

import (
	"math"
	"math/big"
	"slices"
	"testing"

	"typecase/api"
	"typecase/font"
	"typecase/grapheme"
)

const (
	// most is the greatest number of elements of a list for which the document promises something (R8).
	most = 1 << 16
	// top is the greatest code point.
	top rune = 0x10FFFF
	// low and high are the ends of the type int.
	low, high = math.MinInt, math.MaxInt
)

// glyphOf is the glyph of r: the mappings are gone through backward, so that the first one decides.
func glyphOf(f api.Font, r rune) int {
	glyph := 0
	for i := len(f.Maps) - 1; i >= 0; i-- {
		if f.Maps[i].Code == r {
			glyph = f.Maps[i].Glyph
		}
	}
	return glyph
}

// newByChapter is what New is asked for, if the clusters of t begin at the given positions.
func newByChapter(f api.Font, t []rune, from int, masks []int, begins []int) []api.Glyph {
	var l []api.Glyph
	for i, r := range t {
		l = append(l, api.Glyph{ID: glyphOf(f, r), Cluster: from + begins[i], To: -1, Hang: -1})
		if i <= len(masks)-1 {
			l[i].Mask = masks[i]
		}
	}
	return l
}

// beginsByChapter returns, for each code point of t, the greatest boundary that isn't behind it.
func beginsByChapter(t []rune) []int {
	var begins []int
	for i := range t {
		boundary := i
		for !grapheme.Is(t, boundary) {
			boundary--
		}
		begins = append(begins, boundary)
	}
	return begins
}

// places tells whether [from, to) is a range of n glyphs, and not empty.
func places(n int, from, to *big.Int) bool {
	return from.Sign() >= 0 && from.Cmp(to) < 0 && to.Cmp(big.NewInt(int64(n))) <= 0
}

// numbers returns a number for each glyph, the same for glyphs that share a cluster and for no others.
func numbers(l []api.Glyph) []int {
	var list []int
	number := 0
	for i := range l {
		if i > 0 && l[i].Cluster != l[i-1].Cluster {
			number++
		}
		list = append(list, number)
	}
	return list
}

// minimum is the least of the Clusters of l: the one that is least when they are sorted.
func minimum(l []api.Glyph) int {
	var clusters []int
	for _, g := range l {
		clusters = append(clusters, g.Cluster)
	}
	slices.Sort(clusters)
	return clusters[0]
}

// replaceByChapter is what Replace is asked for.
func replaceByChapter(l []api.Glyph, at, n int, ids []int) []api.Glyph {
	from := big.NewInt(int64(at))
	if !places(len(l), from, new(big.Int).Add(from, big.NewInt(int64(n)))) {
		return slices.Clone(l)
	}
	var replaced []api.Glyph
	shares := numbers(l)
	cluster := minimum(l[at : at+n])
	for i, g := range l {
		if i == at {
			for _, id := range ids {
				replaced = append(replaced, api.Glyph{ID: id, Cluster: cluster, To: -1, Hang: -1, Lig: g.Lig, Comp: g.Comp, Mask: g.Mask})
			}
		}
		if i >= at && i < at+n {
			continue
		}
		if i >= at+n && len(ids) == 0 && shares[i] == shares[at+n] && g.Cluster > cluster {
			g.Cluster = cluster
		}
		replaced = append(replaced, g)
	}
	return replaced
}

// mergeByChapter is what Merge is asked for.
func mergeByChapter(l []api.Glyph, from, to int) []api.Glyph {
	merged := slices.Clone(l)
	if !places(len(l), big.NewInt(int64(from)), big.NewInt(int64(to))) {
		return merged
	}
	shares := numbers(l)
	cluster := minimum(l[from:to])
	for i := range merged {
		before := i < from && shares[i] == shares[from]
		behind := i >= to && shares[i] == shares[to-1]
		if before || behind || i >= from && i < to {
			merged[i].Cluster = cluster
		}
	}
	return merged
}

// turnByChapter is what Turn is asked for.
func turnByChapter(l []api.Glyph) []api.Glyph {
	n := len(l)
	became := map[int]int{}
	for i := range l {
		became[i] = n - 1 - i
	}
	turned := make([]api.Glyph, n)
	for i, g := range l {
		if to, index := became[g.To]; index {
			g.To = to
		}
		if hang, index := became[g.Hang]; index {
			g.Hang = hang
		}
		turned[became[i]] = g
	}
	return turned
}

// groupsByChapter is what Groups is asked for, found from the end.
func groupsByChapter(l []api.Glyph) []api.Cut {
	var groups []api.Cut
	shares := numbers(l)
	for i := len(l) - 1; i >= 0; i-- {
		if i == len(l)-1 || shares[i] != shares[i+1] {
			groups = append(groups, api.Cut{To: i + 1})
		}
		groups[len(groups)-1].From = i
	}
	slices.Reverse(groups)
	return groups
}

// rightByChapter is what Right is asked for.
func rightByChapter(l []api.Glyph) bool {
	faults := 0
	indices := map[int]bool{-1: true}
	for i := range l {
		indices[i] = true
	}
	var clusters []int
	for _, g := range l {
		clusters = append(clusters, g.Cluster)
		if !indices[g.To] {
			faults++
		}
		if !indices[g.Hang] {
			faults++
		}
	}
	return faults == 0 && slices.IsSorted(clusters)
}

// makes checks New of clusters that begin at the given positions, and what follows for the buffer, and returns it.
func makes(t *testing.T, f api.Font, text []rune, from int, masks []int, begins []int) []api.Glyph {
	t.Helper()
	want := newByChapter(f, text, from, masks, begins)
	l := New(f, text, from, masks)
	if !slices.Equal(l, want) {
		t.Fatalf("New(%v, %X, %d, %v) = %v, not %v", f.Maps, text, from, masks, l, want)
	}
	if !Right(l) {
		t.Fatalf("New(%v, %X, %d, %v) isn't right: %v", f.Maps, text, from, masks, l)
	}
	tells(t, l)
	return l
}

// makesText checks New, and where the clusters begin against layer 7.
func makesText(t *testing.T, f api.Font, text []rune, from int, masks []int) []api.Glyph {
	t.Helper()
	return makes(t, f, text, from, masks, beginsByChapter(text))
}

// replaces checks Replace against the chapter, with what follows, and returns the result.
func replaces(t *testing.T, l []api.Glyph, at, n int, ids []int) []api.Glyph {
	t.Helper()
	want := replaceByChapter(l, at, n, ids)
	got := Replace(l, at, n, ids)
	if !slices.Equal(got, want) {
		t.Fatalf("Replace(%v, %d, %d, %v) = %v, not %v", l, at, n, ids, got, want)
	}
	if isPlain(l) && !Right(got) {
		t.Fatalf("Replace(%v, %d, %d, %v) isn't right: %v", l, at, n, ids, got)
	}
	return got
}

// merges checks Merge against the chapter, with what follows, and returns the result.
func merges(t *testing.T, l []api.Glyph, from, to int) []api.Glyph {
	t.Helper()
	want := mergeByChapter(l, from, to)
	got := Merge(l, from, to)
	if !slices.Equal(got, want) {
		t.Fatalf("Merge(%v, %d, %d) = %v, not %v", l, from, to, got, want)
	}
	if isPlain(l) && !Right(got) {
		t.Fatalf("Merge(%v, %d, %d) isn't right: %v", l, from, to, got)
	}
	if from >= 0 && from < to && to <= len(l) {
		together := func(g api.Cut) bool { return g.From <= from && to <= g.To }
		if !slices.ContainsFunc(Groups(got), together) {
			t.Fatalf("Merge(%v, %d, %d) has the groups %v", l, from, to, Groups(got))
		}
	}
	return got
}

// tells checks Turn, Groups, Right and IDs against the chapter, with what follows.
func tells(t *testing.T, l []api.Glyph) {
	t.Helper()
	turned := Turn(l)
	if want := turnByChapter(l); !slices.Equal(turned, want) {
		t.Fatalf("Turn(%v) = %v, not %v", l, turned, want)
	}
	if again := Turn(turned); !slices.Equal(again, l) {
		t.Fatalf("Turn, twice, of %v is %v", l, again)
	}
	groups := Groups(l)
	if want := groupsByChapter(l); !slices.Equal(groups, want) {
		t.Fatalf("Groups(%v) = %v, not %v", l, groups, want)
	}
	covers(t, l, groups)
	if got, want := Right(l), rightByChapter(l); got != want {
		t.Fatalf("Right(%v) = %t", l, got)
	}
	ids := IDs(l)
	if len(ids) != len(l) {
		t.Fatalf("IDs(%v) = %v", l, ids)
	}
	for i, id := range ids {
		if l[i].ID != id {
			t.Fatalf("IDs(%v) = %v", l, ids)
		}
	}
}

// covers checks that the groups cover l in order, without gaps, and that each is of one Cluster.
func covers(t *testing.T, l []api.Glyph, groups []api.Cut) {
	t.Helper()
	at := 0
	for i, g := range groups {
		if g.From != at || g.To <= g.From || i > 0 && l[g.From-1].Cluster == l[g.From].Cluster {
			t.Fatalf("the groups of %v are %v", l, groups)
		}
		for ; at < g.To; at++ {
			if l[at].Cluster != l[g.From].Cluster {
				t.Fatalf("the groups of %v are %v", l, groups)
			}
		}
	}
	if at != len(l) {
		t.Fatalf("the groups of %v are %v", l, groups)
	}
}

// addsUp checks Wide, whose sum goes past no end.
func addsUp(t *testing.T, l []api.Glyph) {
	t.Helper()
	sum := new(big.Int)
	for i := len(l) - 1; i >= 0; i-- {
		sum.Add(sum, big.NewInt(int64(l[i].Adv)))
	}
	if got := Wide(l); !sum.IsInt64() || int64(got) != sum.Int64() {
		t.Fatalf("Wide(%v) = %d, not %v", l, got, sum)
	}
}

// isPlain tells whether l is Right, and its To and Hang are None.
func isPlain(l []api.Glyph) bool {
	leads := func(g api.Glyph) bool { return g.To != -1 || g.Hang != -1 }
	return rightByChapter(l) && !slices.ContainsFunc(l, leads)
}

// stays checks, for each glyph of l, what changes if it is replaced by its own ID.
func stays(t *testing.T, l []api.Glyph) {
	t.Helper()
	for i, g := range l {
		got := Replace(l, i, 1, []int{g.ID})
		if len(got) != len(l) {
			t.Fatalf("glyph %d of %v for itself: %v", i, l, got)
		}
		for k, was := range l {
			now := got[k]
			if k == i {
				now.Adv, now.DX, now.DY, now.To, now.Hang = was.Adv, was.DX, was.DY, was.To, was.Hang
			}
			if now != was {
				t.Fatalf("glyph %d of %v for itself: %v", i, l, got)
			}
		}
	}
}

// holds checks all functions for a buffer, at all of its places and beside them, with some lists of ids.
func holds(t *testing.T, l []api.Glyph, idLists ...[]int) {
	t.Helper()
	tells(t, l)
	stays(t, l)
	for from := -1; from <= len(l)+1; from++ {
		for to := -1; to <= len(l)+2; to++ {
			merges(t, l, from, to)
			for _, ids := range idLists {
				replaces(t, l, from, to-from, ids)
			}
		}
	}
}

// clustered returns a buffer with these Clusters and different numbers in the other fields. Its To and Hang lead to anything.
func clustered(clusters ...int) []api.Glyph {
	n := len(clusters)
	links := []int{-1, 0, n - 1, n / 2, n, -2, 1}
	var l []api.Glyph
	for i, cluster := range clusters {
		l = append(l, api.Glyph{
			ID: 'a' + i, Cluster: cluster, Adv: 100 + i, DX: 200 + i, DY: -300 - i, To: links[i%7], Hang: links[(i+3)%7],
			Lig: 400 + i, Comp: 500 + i, Mask: 600 + i,
		})
	}
	return l
}

// loose returns a copy of l in which every To and Hang is None.
func loose(l []api.Glyph) []api.Glyph {
	l = slices.Clone(l)
	for i := range l {
		l[i].To, l[i].Hang = -1, -1
	}
	return l
}

// linked returns a buffer of one Cluster with these To and Hang.
func linked(links ...[2]int) []api.Glyph {
	l := clustered(make([]int, len(links))...)
	for i, link := range links {
		l[i].To, l[i].Hang = link[0], link[1]
	}
	return l
}

// mapped returns a font with the mappings that are written as a letter and a digit each, and ten glyphs that have something in all of their fields.
func mapped(written string) api.Font {
	f := api.Font{Em: 1000, Glyphs: slices.Repeat([]api.Info{{Adv: 7, Kind: api.GkLig, Attach: 3, Carets: []int{1, 2}}}, 10)}
	signs := spell(written)
	for i := 0; i < len(signs); i += 2 {
		f.Maps = append(f.Maps, api.Map{Code: signs[i], Glyph: int(signs[i+1] - '0')})
	}
	return f
}

// digits returns the numbers that are written as digits.
func digits(text string) []int {
	var list []int
	for _, digit := range text {
		list = append(list, int(digit-'0'))
	}
	return list
}

// sign returns the code point that stands for a letter of the texts written by hand: most stand for themselves.
func sign(letter rune) rune {
	switch letter {
	case 'r':
		return '\r'
	case 'n':
		return '\n'
	case 's': // a Control
		return 0xAD
	case '\'': // an Extend
		return 0x301
	case 'z': // ZWJ
		return 0x200D
	case 'F': // a Regional
		return 0x1F1E6
	case 'P': // a Prepend
		return 0x600
	case ':': // a Spacing
		return 0x903
	case 'l': // of Hangul: L
		return 0x1100
	case 'v': // V
		return 0x1160
	case 't': // T
		return 0x11A8
	case 'y': // LV
		return 0xAC00
	case 'Y': // LVT
		return 0xAC01
	case '*': // a Picture
		return 0x1F466
	case '!': // a surrogate
		return 0xD800
	}
	return letter
}

// allLetters are letters of every class of layer 7, and one that is no code point.
const allLetters = "abrns'zFP:lvtyY*!"

// spell returns the text that is written with one letter for each code point.
func spell(letters string) []rune {
	var text []rune
	for _, letter := range letters {
		text = append(text, sign(letter))
	}
	return text
}

// notCodes are no valid runes.
func notCodes() []rune {
	return []rune{
		math.MinInt32, math.MinInt32 + 1, -0x110000, -0x10FFFF, -256, -'a', -2, -1, 0xD800, 0xD801, 0xDBFF, 0xDC00, 0xDFFE, 0xDFFF,
		top + 1, top + 2, 0x110061, 1 << 24, 1<<24 + 'a', 1 << 30, math.MaxInt32 - 1, math.MaxInt32,
	}
}

// farInts are numbers at the ends of the type int and numbers that would be small ones if bits were lost.
func farInts() []int {
	return []int{
		low, low + 1, low + 2, low + 3, low + 4, low / 2, -(1 << 32) - 1, -(1 << 32), -(1 << 32) + 1, -(1 << 32) + 2, -(1 << 31), -(1 << 16),
		1 << 16, 1 << 31, 1<<32 - 1, 1 << 32, 1<<32 + 1, 1<<32 + 2, 1 << 48, high / 2, high - 4, high - 3, high - 2, high - 1, high,
	}
}

// lists calls visit with each list of at most longest of the given elements.
func lists[T any](longest int, among []T, visit func(list []T)) {
	count := 1
	for size := range longest + 1 {
		for code := range count {
			list := make([]T, size)
			for i := range list {
				list[i] = among[code%len(among)]
				code /= len(among)
			}
			visit(list)
		}
		count *= len(among)
	}
}

// stream returns a function that returns numbers from 0 up to n, the same ones each time.
func stream() func(n int) int {
	state := uint64(1)
	return func(n int) int {
		state = state*6364136223846793005 + 1442695040888963407
		return int(state >> 33 % uint64(n))
	}
}

// some returns a list of n of the given elements.
func some[T any](next func(int) int, n int, among []T) []T {
	list := make([]T, n)
	for i := range list {
		list[i] = among[next(len(among))]
	}
	return list
}

// indexed returns the list of what made returns for the numbers from 0 up to n.
func indexed[T any](n int, made func(i int) T) []T {
	list := make([]T, n)
	for i := range list {
		list[i] = made(i)
	}
	return list
}

// anyInt returns small numbers and far ones.
func anyInt(next func(int) int) int {
	if next(6) == 0 {
		return some(next, 1, farInts())[0]
	}
	return next(12) - 4
}

// someFont returns a font of the given codes: a plain one, or one of some mappings in any order and to anything, which is hardly ever valid.
func someFont(next func(int) int, codes []rune) api.Font {
	codes = some(next, next(2*len(codes)+1), codes)
	if next(3) == 0 {
		return font.Plain(codes, anyInt(next))
	}
	return api.Font{
		Em:     anyInt(next),
		Glyphs: indexed(next(10), func(int) api.Info { return api.Info{Adv: anyInt(next), Kind: anyInt(next), Attach: anyInt(next)} }),
		Maps:   indexed(len(codes), func(i int) api.Map { return api.Map{Code: codes[i], Glyph: anyInt(next)} }),
	}
}

// someBuffer returns a buffer of n glyphs of any fields, whose Clusters rise by at most step or, where step is 0, are any numbers. Where they rise, and there are links only to glyphs, the buffer is right.
func someBuffer(next func(int) int, n, step int, links []int) []api.Glyph {
	cluster := anyInt(next) / 2
	return indexed(n, func(int) api.Glyph {
		if step > 0 {
			cluster += next(step + 1)
		} else {
			cluster = some(next, 1, []int{0, 1, 2, 3, anyInt(next)})[0]
		}
		return api.Glyph{
			ID: anyInt(next), Cluster: cluster, Adv: next(2000) - 1000, DX: anyInt(next), DY: anyInt(next),
			To: links[next(len(links))], Hang: links[next(len(links))], Lig: anyInt(next), Comp: anyInt(next), Mask: anyInt(next),
		}
	})
}

// roomy returns a copy of the list with room behind it in memory, full of copies of its elements and of one more.
func roomy[T any](list []T, behind T) []T {
	return slices.Concat(list, []T{behind}, list, []T{behind})[:len(list)]
}

// memory is all memory of the list itself, also the room behind it.
func memory[T any](list []T) []T { return list[:cap(list)] }

// whole returns a copy of all memory of the list.
func whole[T any](list []T) []T { return slices.Clone(memory(list)) }

// spoil writes to all memory of the list.
func spoil[T any](list []T, with T) {
	for i := range memory(list) {
		memory(list)[i] = with
	}
}
