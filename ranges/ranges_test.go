package ranges

import (
	"iter"
	"math"
	"slices"
	"testing"
)

const (
	top  = 0x10FFFF
	low  = math.MinInt32
	high = math.MaxInt32
)

// edges are the runes at which a call may change what it answers, and some beside them.
var edges = []rune{low, low + 1, -0x110000, -6, -2, -1, 0, 1, 2, 3, 4, 5, 6, 7, 8, 9, 10, 11, 97, 98, 99,
	0xD7FF, 0xD800, 0xDFFF, 0xE000, 0xFFFF, 0x10000, top - 3, top - 2, top - 1, top, top + 1, top + 2, top + 9, high - 1, high}

// all is the normal list of all codes.
var all = []Range{{0, top}}

// inside is the chapter's definition of the codes of a list.
func inside(l []Range, code int) bool {
	if code < 0 || code > top {
		return false
	}
	for _, part := range l {
		if int(part.From) <= code && code <= int(part.To) {
			return true
		}
	}
	return false
}

// normalOf returns the normal list of the codes that keep keeps, which asks for no more of a code than which ranges of the lists contain it:
// from one end of a range to the next, all codes have the same answer.
func normalOf(keep func(code int) bool, lists ...[]Range) []Range {
	ends := []int{0, top + 1}
	for _, l := range lists {
		for _, part := range l {
			ends = append(ends, min(max(int(part.From), 0), top+1), min(max(int(part.To)+1, 0), top+1))
		}
	}
	slices.Sort(ends)
	ends = slices.Compact(ends)
	var normal []Range
	joined := false
	for i, end := range ends[1:] {
		from, to := ends[i], rune(end-1)
		kept := keep(from)
		if kept && joined {
			normal[len(normal)-1].To = to
		} else if kept {
			normal = append(normal, Range{rune(from), to})
		}
		joined = kept
	}
	return normal
}

// isNormal is the chapter's definition of a normal list.
func isNormal(l []Range) bool {
	for i, part := range l {
		if part.From < 0 || part.To > top || part.To < part.From || i > 0 && part.From-l[i-1].To < 2 {
			return false
		}
	}
	return true
}

// stream returns a function that returns numbers from 0 up to n, the same ones each time.
func stream() func(n int) int {
	state := uint64(1)
	return func(n int) int {
		state = state*6364136223846793005 + 1442695040888963407
		return int(state >> 33 % uint64(n))
	}
}

// handLists are lists of each kind that the chapter and the bounds of its types give.
func handLists() [][]Range {
	return [][]Range{
		nil, {}, {{0, top}}, {{low, high}}, {{0, top - 1}}, {{1, top}}, {{0, 0}}, {{top, top}}, {{5, 5}},
		{{9, 8}}, {{0, -1}}, {{high, low}}, {{1, 0}, {9, 8}}, {{1, 3}, {9, 8}, {5, 6}}, {{6, 2}, {4, 4}}, {{top + 5, 3}}, {{4, -4}},
		{{-5, -1}}, {{low, -1}}, {{low, low}}, {{top + 1, top + 1}}, {{top + 1, high}}, {{high, high}}, {{low, -2}, {top + 2, high}},
		{{-5, 2}}, {{low, 0}}, {{-1, 0}}, {{top, top + 1}}, {{top, high}}, {{top - 2, high}}, {{low, 5}, {7, high}}, {{low, 5}, {6, high}}, {{-3, -1}, {0, 1}},
		{{5, 7}, {1, 3}, {4, 4}, {9, 8}}, {{10, 20}, {21, 25}, {1, 0}, {-5, 2}}, {{1, 3}, {2, 5}}, {{2, 5}, {1, 3}}, {{1, 9}, {3, 4}}, {{3, 4}, {1, 9}},
		{{1, 9}, {3, 4}, {6, 7}, {10, 10}}, {{1, 3}, {1, 3}}, {{1, 3}, {1, 5}}, {{1, 5}, {1, 3}}, {{1, 3}, {4, 5}}, {{4, 5}, {1, 3}}, {{1, 3}, {5, 6}},
		{{5, 6}, {1, 3}}, {{1, 1}, {3, 3}, {5, 5}, {7, 7}}, {{7, 7}, {5, 5}, {3, 3}, {1, 1}}, {{2, 2}, {4, 4}, {6, 6}}, {{1, 1}, {2, 2}, {3, 3}},
		{{0, 9}}, {{3, 4}}, {{0, 0}, {2, top - 2}, {top, top}}, {{1, 1}, {top - 1, top - 1}}, {{top - 3, top}, {0, 3}}, {{0xD800, 0xDFFF}}, {{0, 0xD7FF}, {0xE000, top}},
		{{97, 99}}, {{98, 98}}, {{0, 0xFFFF}, {0x10000, top}}, {{7, 6}, {low, -9}, {5, 5}, {top + 1, top + 9}, {3, 4}, {11, 12}},
	}
}

// lists are the ones of handLists, and some whose ranges run from edge to edge.
func lists() [][]Range {
	l := handLists()
	pick := stream()
	for size := 1; size <= 8; size++ {
		for range 12 {
			made := make([]Range, size)
			for i := range made {
				at := pick(len(edges))
				to := at + pick(4) - 1
				if pick(6) == 0 {
					to = pick(len(edges))
				}
				made[i] = Range{edges[at], edges[min(max(to, 0), len(edges)-1)]}
			}
			l = append(l, made)
		}
	}
	return l
}

// pairs calls visit with each two of the lists.
func pairs(visit func(a, b []Range)) {
	for _, a := range lists() {
		for _, b := range lists() {
			visit(a, b)
		}
	}
}

// collect returns what the iterator yields, at most limit of it.
func collect(all iter.Seq[rune], limit int) []rune {
	var t []rune
	for r := range all {
		if len(t) == limit {
			break
		}
		t = append(t, r)
	}
	return t
}

// The tests lean on normalOf, so it is held against a table of all codes.
func TestModelIsTheDefinition(t *testing.T) {
	for _, l := range handLists() {
		var want []Range
		for code := range top + 1 {
			if !inside(l, code) {
				continue
			}
			if n := len(want); n > 0 && int(want[n-1].To) == code-1 {
				want[n-1].To++
			} else {
				want = append(want, Range{rune(code), rune(code)})
			}
		}
		if got := normalOf(func(code int) bool { return inside(l, code) }, l); !slices.Equal(got, want) || !isNormal(want) {
			t.Fatalf("%v: %v, not %v", l, got, want)
		}
	}
}

func TestP3_1NormByHand(t *testing.T) {
	for _, x := range []struct{ l, want []Range }{
		{nil, nil}, {[]Range{}, nil}, {[]Range{{1, 3}}, []Range{{1, 3}}}, {[]Range{{4, 4}}, []Range{{4, 4}}},
		// Empty ranges.
		{[]Range{{9, 8}}, nil}, {[]Range{{high, low}}, nil}, {[]Range{{0, -1}}, nil}, {[]Range{{top + 1, top}}, nil}, {[]Range{{4, -4}}, nil}, {[]Range{{top + 5, 3}}, nil},
		{[]Range{{1, 3}, {9, 8}, {5, 6}}, []Range{{1, 3}, {5, 6}}}, {[]Range{{6, 2}, {4, 4}}, []Range{{4, 4}}},
		// An empty range joins nothing.
		{[]Range{{1, 3}, {4, 3}, {5, 6}}, []Range{{1, 3}, {5, 6}}}, {[]Range{{1, 3}, {9, 2}}, []Range{{1, 3}}},
		// Ranges beyond the codes.
		{[]Range{{-5, 2}}, []Range{{0, 2}}}, {[]Range{{-5, -1}}, nil}, {[]Range{{-5, 0}}, []Range{{0, 0}}}, {[]Range{{low, low}}, nil}, {[]Range{{low, 4}}, []Range{{0, 4}}},
		{[]Range{{top, top + 1}}, []Range{{top, top}}}, {[]Range{{top - 1, high}}, []Range{{top - 1, top}}}, {[]Range{{top + 1, high}}, nil}, {[]Range{{high, high}}, nil},
		{[]Range{{low, high}}, all}, {[]Range{{low, -1}, {top + 1, high}}, nil}, {[]Range{{low, 5}, {7, high}}, []Range{{0, 5}, {7, top}}},
		{[]Range{{low, -1}, {1, 2}}, []Range{{1, 2}}}, {[]Range{{top - 2, top - 1}, {top + 1, high}}, []Range{{top - 2, top - 1}}},
		// Any order; overlapping, touching, and one code apart.
		{[]Range{{5, 6}, {1, 3}}, []Range{{1, 3}, {5, 6}}}, {[]Range{{1, 3}, {5, 6}}, []Range{{1, 3}, {5, 6}}}, {[]Range{{1, 3}, {4, 6}}, []Range{{1, 6}}}, {[]Range{{4, 6}, {1, 3}}, []Range{{1, 6}}},
		{[]Range{{1, 4}, {4, 6}}, []Range{{1, 6}}}, {[]Range{{4, 6}, {1, 5}}, []Range{{1, 6}}}, {[]Range{{1, 9}, {3, 4}}, []Range{{1, 9}}}, {[]Range{{1, 9}, {3, 4}, {6, 11}}, []Range{{1, 11}}},
		{[]Range{{3, 4}, {1, 9}, {11, 11}}, []Range{{1, 9}, {11, 11}}}, {[]Range{{1, 3}, {1, 3}}, []Range{{1, 3}}}, {[]Range{{1, 5}, {1, 3}}, []Range{{1, 5}}}, {[]Range{{1, 3}, {1, 5}}, []Range{{1, 5}}},
		{[]Range{{7, 7}, {5, 5}, {3, 3}, {1, 1}}, []Range{{1, 1}, {3, 3}, {5, 5}, {7, 7}}}, {[]Range{{3, 3}, {1, 1}, {2, 2}}, []Range{{1, 3}}},
		{[]Range{{0xE000, top}, {0, 0xD7FF}}, []Range{{0, 0xD7FF}, {0xE000, top}}}, {[]Range{{0, 0xFFFF}, {0x10000, top}}, all},
	} {
		if got := Norm(x.l...); !slices.Equal(got, x.want) {
			t.Errorf("Norm(%v) = %v, not %v", x.l, got, x.want)
		}
	}
	if got := Norm(); len(got) != 0 {
		t.Error("Norm of no ranges:", got)
	}
}

func TestP3_1Norm(t *testing.T) {
	for _, l := range lists() {
		want := normalOf(func(code int) bool { return inside(l, code) }, l)
		if got := Norm(l...); !slices.Equal(got, want) {
			t.Errorf("Norm(%v) = %v, not %v", l, got, want)
		}
	}
}

func TestP3_1NormOfLongLists(t *testing.T) {
	const size = 1 << 16
	var apart, touching []Range
	for i := range rune(size) {
		// 5 is prime to the size, so that this visits each place once, out of order.
		at := i * 5 % size
		apart = append(apart, Range{at * 2, at * 2})
		touching = append(touching, Range{at * 2, at*2 + 1})
	}
	if got := Norm(touching...); !slices.Equal(got, []Range{{0, 2*size - 1}}) {
		t.Error("touching ranges are", len(got))
	}
	got := Norm(apart...)
	if len(got) != size || !isNormal(got) || got[0] != (Range{0, 0}) || got[size-1] != (Range{2*size - 2, 2*size - 2}) {
		t.Error("ranges that lie apart are", len(got))
	}
	if Count(apart) != size || Count(Not(apart)) != top+1-size || Count(And(apart, touching)) != size || Count(Less(touching, apart)) != size {
		t.Error("counts:", Count(apart), Count(Not(apart)), Count(And(apart, touching)), Count(Less(touching, apart)))
	}
}

func TestP3_1Of(t *testing.T) {
	for _, x := range []struct {
		t    []rune
		want []Range
	}{
		{nil, nil}, {[]rune{}, nil}, {[]rune{'c', 'a', 'b'}, []Range{{97, 99}}}, {[]rune{'a', 'c'}, []Range{{97, 97}, {99, 99}}}, {[]rune{'c', 'a'}, []Range{{97, 97}, {99, 99}}},
		// Runes that occur twice, side by side and apart.
		{[]rune{'a', 'a'}, []Range{{97, 97}}}, {[]rune{'b', 'a', 'b'}, []Range{{97, 98}}}, {[]rune{'z', 'e', 'b', 'r', 'a', 'b'}, []Range{{97, 98}, {101, 101}, {114, 114}, {122, 122}}},
		// Runes that are not codes.
		{[]rune{-1}, nil}, {[]rune{low}, nil}, {[]rune{top + 1}, nil}, {[]rune{high}, nil}, {[]rune{-1, 0, 1}, []Range{{0, 1}}}, {[]rune{top + 1, top, high, top - 1}, []Range{{top - 1, top}}},
		{[]rune{low, 'a', -1, 'a', high}, []Range{{97, 97}}}, {[]rune{0}, []Range{{0, 0}}}, {[]rune{top}, []Range{{top, top}}}, {[]rune{top, 0}, []Range{{0, 0}, {top, top}}},
		// Surrogates are codes.
		{[]rune{0xD800, 0xDFFF, 0xD801}, []Range{{0xD800, 0xD801}, {0xDFFF, 0xDFFF}}},
	} {
		if got := Of(x.t); !slices.Equal(got, x.want) {
			t.Errorf("Of(%x) = %v, not %v", x.t, got, x.want)
		}
	}
}

func TestP3_2Has(t *testing.T) {
	for _, l := range lists() {
		for _, r := range edges {
			if got, want := Has(l, r), inside(l, int(r)); got != want {
				t.Errorf("Has(%v, %d) = %t", l, r, got)
			}
		}
	}
}

func TestP3_2HasByHand(t *testing.T) {
	for _, x := range []struct {
		l    []Range
		r    rune
		want bool
	}{
		{nil, 0, false}, {[]Range{{1, 3}}, 0, false}, {[]Range{{1, 3}}, 1, true}, {[]Range{{1, 3}}, 2, true}, {[]Range{{1, 3}}, 3, true}, {[]Range{{1, 3}}, 4, false},
		{[]Range{{5, 6}, {1, 3}}, 2, true}, {[]Range{{5, 6}, {1, 3}}, 4, false}, {[]Range{{5, 6}, {1, 3}}, 5, true}, {[]Range{{3, 1}}, 2, false}, {[]Range{{3, 1}}, 3, false}, {[]Range{{3, 1}}, 1, false},
		{[]Range{{0xD800, 0xDFFF}}, 0xD900, true}, {[]Range{{low, high}}, 0, true}, {[]Range{{low, high}}, top, true},
		// Runes that are not codes are in no list.
		{[]Range{{low, high}}, -1, false}, {[]Range{{low, high}}, top + 1, false}, {[]Range{{low, high}}, low, false}, {[]Range{{low, high}}, high, false},
		{[]Range{{-5, -1}}, -3, false}, {[]Range{{top + 1, top + 9}}, top + 5, false}, {nil, -1, false}, {all, top + 1, false},
	} {
		if got := Has(x.l, x.r); got != x.want {
			t.Errorf("Has(%v, %d) = %t", x.l, x.r, got)
		}
	}
}

func TestP3_2Count(t *testing.T) {
	for _, x := range []struct {
		l    []Range
		want int
	}{
		{nil, 0}, {[]Range{{9, 8}}, 0}, {[]Range{{high, low}}, 0}, {[]Range{{4, 4}}, 1}, {[]Range{{1, 3}}, 3}, {[]Range{{1, 3}, {2, 5}}, 5}, {[]Range{{1, 3}, {1, 3}}, 3}, {[]Range{{5, 6}, {1, 3}}, 5},
		{[]Range{{-5, -1}}, 0}, {[]Range{{-5, 0}}, 1}, {[]Range{{top, high}}, 1}, {[]Range{{top + 1, high}}, 0}, {[]Range{{low, high}}, 0x110000}, {all, 0x110000}, {[]Range{{low, high}, {0, top}, {3, 4}}, 0x110000},
	} {
		if got := Count(x.l); got != x.want {
			t.Errorf("Count(%v) = %d, not %d", x.l, got, x.want)
		}
	}
	for _, l := range lists() {
		want := 0
		for _, part := range normalOf(func(code int) bool { return inside(l, code) }, l) {
			want += int(part.To) - int(part.From) + 1
		}
		if got := Count(l); got != want {
			t.Errorf("Count(%v) = %d, not %d", l, got, want)
		}
	}
}

func TestP3_3OrAndLess(t *testing.T) {
	pairs(func(a, b []Range) {
		for _, x := range []struct {
			name string
			got  []Range
			keep func(code int) bool
		}{
			{"Or", Or(a, b), func(code int) bool { return inside(a, code) || inside(b, code) }},
			{"And", And(a, b), func(code int) bool { return inside(a, code) && inside(b, code) }},
			{"Less", Less(a, b), func(code int) bool { return inside(a, code) && !inside(b, code) }},
		} {
			if want := normalOf(x.keep, a, b); !slices.Equal(x.got, want) {
				t.Fatalf("%s(%v, %v) = %v, not %v", x.name, a, b, x.got, want)
			}
		}
	})
}

func TestP3_3OrAndLessByHand(t *testing.T) {
	for _, x := range []struct{ a, b, or, and, less []Range }{
		{nil, nil, nil, nil, nil},
		{[]Range{{1, 3}}, nil, []Range{{1, 3}}, nil, []Range{{1, 3}}},
		{nil, []Range{{1, 3}}, []Range{{1, 3}}, nil, nil},
		{[]Range{{0, 9}}, []Range{{3, 4}}, []Range{{0, 9}}, []Range{{3, 4}}, []Range{{0, 2}, {5, 9}}},
		{[]Range{{3, 4}}, []Range{{0, 9}}, []Range{{0, 9}}, []Range{{3, 4}}, nil},
		{[]Range{{1, 3}}, []Range{{4, 6}}, []Range{{1, 6}}, nil, []Range{{1, 3}}},
		{[]Range{{1, 3}}, []Range{{5, 6}}, []Range{{1, 3}, {5, 6}}, nil, []Range{{1, 3}}},
		{[]Range{{1, 4}}, []Range{{4, 6}}, []Range{{1, 6}}, []Range{{4, 4}}, []Range{{1, 3}}},
		{[]Range{{1, 9}}, []Range{{1, 2}, {4, 4}, {9, 9}}, []Range{{1, 9}}, []Range{{1, 2}, {4, 4}, {9, 9}}, []Range{{3, 3}, {5, 8}}},
		{all, all, all, all, nil},
		// Lists that are not normal.
		{[]Range{{4, 6}, {1, 4}}, []Range{{5, 9}, {2, 3}, {9, 8}}, []Range{{1, 9}}, []Range{{2, 3}, {5, 6}}, []Range{{1, 1}, {4, 4}}},
		{[]Range{{4, 6}, {1, 3}}, []Range{{3, 3}, {4, 4}}, []Range{{1, 6}}, []Range{{3, 4}}, []Range{{1, 2}, {5, 6}}},
		{[]Range{{low, 3}}, []Range{{2, high}}, all, []Range{{2, 3}}, []Range{{0, 1}}},
		{[]Range{{low, -1}}, []Range{{-9, -1}}, nil, nil, nil},
		{[]Range{{top - 1, high}}, []Range{{top + 1, high}}, []Range{{top - 1, top}}, nil, []Range{{top - 1, top}}},
		{[]Range{{3, 1}}, []Range{{2, 2}}, []Range{{2, 2}}, nil, nil},
	} {
		if got := Or(x.a, x.b); !slices.Equal(got, x.or) {
			t.Errorf("Or(%v, %v) = %v, not %v", x.a, x.b, got, x.or)
		}
		if got := And(x.a, x.b); !slices.Equal(got, x.and) {
			t.Errorf("And(%v, %v) = %v, not %v", x.a, x.b, got, x.and)
		}
		if got := Less(x.a, x.b); !slices.Equal(got, x.less) {
			t.Errorf("Less(%v, %v) = %v, not %v", x.a, x.b, got, x.less)
		}
	}
}

func TestP3_3Not(t *testing.T) {
	for _, x := range []struct{ l, want []Range }{
		{nil, all}, {[]Range{{9, 8}}, all}, {[]Range{{low, -1}, {top + 1, high}}, all}, {all, nil}, {[]Range{{low, high}}, nil},
		{[]Range{{0, top - 1}}, []Range{{top, top}}}, {[]Range{{1, top}}, []Range{{0, 0}}}, {[]Range{{0, 0}}, []Range{{1, top}}}, {[]Range{{top, top}}, []Range{{0, top - 1}}},
		{[]Range{{5, 7}}, []Range{{0, 4}, {8, top}}}, {[]Range{{1, 3}, {5, 7}}, []Range{{0, 0}, {4, 4}, {8, top}}},
		{[]Range{{5, 7}, {1, 3}, {4, 4}, {9, 8}}, []Range{{0, 0}, {8, top}}}, {[]Range{{low, 5}, {7, high}}, []Range{{6, 6}}}, {[]Range{{0xD800, 0xDFFF}}, []Range{{0, 0xD7FF}, {0xE000, top}}},
	} {
		if got := Not(x.l); !slices.Equal(got, x.want) {
			t.Errorf("Not(%v) = %v, not %v", x.l, got, x.want)
		}
	}
	for _, l := range lists() {
		want := normalOf(func(code int) bool { return !inside(l, code) }, l)
		if got := Not(l); !slices.Equal(got, want) {
			t.Errorf("Not(%v) = %v, not %v", l, got, want)
		}
	}
}

func TestP3_4All(t *testing.T) {
	for _, x := range []struct {
		l    []Range
		want []rune
	}{
		{nil, nil}, {[]Range{}, nil}, {[]Range{{9, 8}}, nil}, {[]Range{{low, -1}, {top + 1, high}}, nil}, {[]Range{{4, 4}}, []rune{4}}, {[]Range{{1, 3}}, []rune{1, 2, 3}},
		{[]Range{{5, 7}, {1, 3}}, []rune{1, 2, 3, 5, 6, 7}}, {[]Range{{2, 5}, {1, 3}, {9, 8}, {6, 6}, {2, 2}}, []rune{1, 2, 3, 4, 5, 6}},
		{[]Range{{-5, 1}}, []rune{0, 1}}, {[]Range{{low, 1}, {top - 1, high}}, []rune{0, 1, top - 1, top}}, {[]Range{{top, top}}, []rune{top}}, {[]Range{{0xDFFF, 0xE000}, {0xD7FF, 0xD800}}, []rune{0xD7FF, 0xD800, 0xDFFF, 0xE000}},
	} {
		if got := collect(All(x.l), high); !slices.Equal(got, x.want) {
			t.Errorf("All(%v): %d, not %d", x.l, got, x.want)
		}
	}
}

func TestP3_4AllOfEveryCode(t *testing.T) {
	next := rune(0)
	for code := range All([]Range{{7, high}, {low, 9}}) {
		if code != next {
			t.Fatalf("%d, not %d", code, next)
		}
		next++
	}
	if next != top+1 {
		t.Error("the last code is", next-1)
	}
}

func TestP3_4AllStopsAndStartsAgain(t *testing.T) {
	codes := All([]Range{{8, 9}, {1, 3}, {3, 4}, {6, 6}})
	whole := []rune{1, 2, 3, 4, 6, 8, 9}
	for stop := range len(whole) + 1 {
		if got := collect(codes, stop); !slices.Equal(got, whole[:stop]) {
			t.Errorf("stopped after %d: %d", stop, got)
		}
		asked := 0
		codes(func(rune) bool {
			asked++
			return asked <= stop
		})
		if want := min(stop+1, len(whole)); asked != want {
			t.Errorf("a loop that stops after %d is asked %d times, not %d", stop, asked, want)
		}
	}
	// One loop within the other.
	var inner []rune
	for range codes {
		inner = append(inner, collect(codes, high)...)
	}
	if !slices.Equal(inner, slices.Repeat(whole, len(whole))) {
		t.Errorf("within itself: %d", inner)
	}
}

func TestR6AllIsNeverNil(t *testing.T) {
	for _, l := range lists() {
		if All(l) == nil {
			t.Errorf("All(%v) is nil", l)
		}
	}
}

func TestP3_5ResultsAreNormal(t *testing.T) {
	check := func(name string, l []Range) {
		if !isNormal(l) {
			t.Fatalf("%s: %v is not normal", name, l)
		}
		if again := Norm(l...); !slices.Equal(again, l) {
			t.Fatalf("%s: Norm(%v) = %v", name, l, again)
		}
	}
	for _, l := range lists() {
		check("Norm", Norm(l...))
		check("Not", Not(l))
	}
	check("Of", Of(edges))
	pairs(func(a, b []Range) {
		check("Or", Or(a, b))
		check("And", And(a, b))
		check("Less", Less(a, b))
	})
}

func TestP3_5Laws(t *testing.T) {
	for _, l := range lists() {
		if got, want := Not(Not(l)), Norm(l...); !slices.Equal(got, want) {
			t.Errorf("Not(Not(%v)) = %v, not %v", l, got, want)
		}
	}
	pairs(func(a, b []Range) {
		if got, want := Less(a, b), And(a, Not(b)); !slices.Equal(got, want) {
			t.Fatalf("Less(%v, %v) = %v, not %v", a, b, got, want)
		}
		if got, want := Not(Or(a, b)), And(Not(a), Not(b)); !slices.Equal(got, want) {
			t.Fatalf("Not(Or(%v, %v)) = %v, not %v", a, b, got, want)
		}
	})
}

func TestP3_6Counts(t *testing.T) {
	pairs(func(a, b []Range) {
		if got, want := Count(Or(a, b))+Count(And(a, b)), Count(a)+Count(b); got != want {
			t.Fatalf("Or and And of %v and %v count %d, not %d", a, b, got, want)
		}
	})
}

func TestP3_6OfHasWhatOccurs(t *testing.T) {
	pick := stream()
	for size := range 40 {
		text := make([]rune, size)
		for i := range text {
			text[i] = edges[pick(len(edges))]
		}
		l := Of(text)
		for _, r := range edges {
			if got, want := Has(l, r), r >= 0 && r <= top && slices.Contains(text, r); got != want {
				t.Fatalf("%x in Of(%x): %t", r, text, got)
			}
		}
	}
}

// calls calls every function on the two lists, and the results that are lists are handed to visit.
func calls(a, b []Range, visit func(name string, result []Range)) {
	visit("Norm", Norm(a...))
	visit("Or", Or(a, b))
	visit("And", And(a, b))
	visit("Less", Less(a, b))
	visit("Not", Not(a))
	Has(a, 5)
	Count(a)
	collect(All(a), 5)
}

func TestR5ArgumentsAreKeptAsTheyAre(t *testing.T) {
	for _, l := range handLists() {
		// Room behind the list, for a call that would append to it.
		room := append(slices.Clone(l), Range{77, 78}, Range{80, 81}, Range{4, 2})
		before := slices.Clone(room)
		for _, b := range [][]Range{{{5, 6}, {1, 2}}, {{low, high}}, nil, l} {
			calls(room[:len(l)], b, func(name string, result []Range) {
				for i := range result {
					result[i] = Range{1000, 999}
				}
			})
			calls(b, room[:len(l)], func(string, []Range) {})
			if !slices.Equal(room, before) {
				t.Fatalf("%v became %v", before, room)
			}
		}
	}
	text := []rune{'z', 'a', -1, 'b', 'a'}
	Of(text)
	if !slices.Equal(text, []rune{'z', 'a', -1, 'b', 'a'}) {
		t.Errorf("the text became %d", text)
	}
}

func TestR5ResultsAreApart(t *testing.T) {
	a, b := []Range{{1, 3}, {7, 9}}, []Range{{2, 8}}
	var results, copies [][]Range
	calls(a, b, func(name string, result []Range) {
		results = append(results, result)
		copies = append(copies, slices.Clone(result))
	})
	clear(a)
	clear(b)
	for i, result := range results {
		if !slices.Equal(result, copies[i]) {
			t.Errorf("result %d became %v", i, result)
		}
		clear(result)
		for other := i + 1; other < len(results); other++ {
			if !slices.Equal(results[other], copies[other]) {
				t.Errorf("results %d and %d share memory", i, other)
			}
		}
	}
}

func TestR5AllKeepsNothing(t *testing.T) {
	l := []Range{{5, 6}, {1, 3}}
	codes := All(l)
	l[0], l[1] = Range{40, 50}, Range{60, 70}
	if got := collect(codes, high); !slices.Equal(got, []rune{1, 2, 3, 5, 6}) {
		t.Errorf("before the first loop: %d", got)
	}
	l = []Range{{5, 6}, {1, 3}}
	codes = All(l)
	var got []rune
	for code := range codes {
		got = append(got, code)
		clear(l)
	}
	if !slices.Equal(got, []rune{1, 2, 3, 5, 6}) {
		t.Errorf("within the loop: %d", got)
	}
}

func TestExamples(t *testing.T) {
	if got := Norm(Range{5, 7}, Range{1, 3}, Range{4, 4}, Range{9, 8}); !slices.Equal(got, []Range{{1, 7}}) {
		t.Error("Norm:", got)
	}
	if got := Less([]Range{{0, 9}}, []Range{{3, 4}}); !slices.Equal(got, []Range{{0, 2}, {5, 9}}) {
		t.Error("Less:", got)
	}
	if got := Not([]Range{{0, 0x10FFFE}}); !slices.Equal(got, []Range{{0x10FFFF, 0x10FFFF}}) {
		t.Error("Not:", got)
	}
	if got := Count([]Range{{1, 3}, {2, 5}}); got != 5 {
		t.Error("Count:", got)
	}
	if got := Of([]rune("cab")); !slices.Equal(got, []Range{{97, 99}}) {
		t.Error("Of:", got)
	}
}
