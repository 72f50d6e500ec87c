package spans

import (
	"math"
	"slices"
	"testing"

	"typecase/api"
)

const (
	low  = math.MinInt
	high = math.MaxInt
)

// list returns the spans whose From, To and Val are given one after another.
func list(fields ...int) []api.Span {
	var l []api.Span
	for part := range slices.Chunk(fields, 3) {
		l = append(l, api.Span{From: part[0], To: part[1], Val: part[2]})
	}
	return l
}

// stream returns a function that returns numbers from 0 up to n, the same ones each time.
func stream() func(n int) int {
	state := uint64(1)
	return func(n int) int {
		state = state*6364136223846793005 + 1442695040888963407
		return int(state >> 33 % uint64(n))
	}
}

// whole returns the whole list with the given value at each position: a stretch ends where the value changes.
func whole(vals []int) []api.Span {
	var l []api.Span
	from := 0
	for i := range vals {
		if i == len(vals)-1 || vals[i] != vals[i+1] {
			l = append(l, api.Span{From: from, To: i + 1, Val: vals[i]})
			from = i + 1
		}
	}
	return l
}

// isWhole is the chapter's definition of a list that is whole for n.
func isWhole(l []api.Span, n int) bool {
	if len(l) == 0 {
		return n == 0
	}
	ok := l[0].From == 0 && l[len(l)-1].To == n
	for i := range l {
		ok = ok && l[i].From < l[i].To
		if i > 0 {
			ok = ok && l[i].From == l[i-1].To && l[i].Val != l[i-1].Val
		}
	}
	return ok
}

// values calls visit with each list of at most most values from -1 to 1. The value 0 is among them, which a background may be taken for.
func values(most int, visit func(vals []int)) {
	count := 1
	for size := range most + 1 {
		for code := range count {
			vals := make([]int, size)
			for i := range vals {
				vals[i] = code%3 - 1
				code /= 3
			}
			visit(vals)
		}
		count *= 3
	}
}

// inRange tells whether position i lies in [from, to).
func inRange(i, from, to int) bool { return i >= from && i < to }

// same reports a list that isn't the wanted one. An empty list is as good as none.
func same(t *testing.T, got, want []api.Span, call string, args ...any) {
	t.Helper()
	if !slices.Equal(got, want) {
		t.Fatalf("%s%v = %v, not %v", call, args, got, want)
	}
}

// painted is the chapter's definition of Norm, position by position.
func painted(l []api.Span, n int) []int {
	var vals []int
	for i := 0; i < n; i++ {
		val := 0
		for _, part := range l {
			if inRange(i, part.From, part.To) {
				val = part.Val
			}
		}
		vals = append(vals, val)
	}
	return vals
}

// normCases are lists with the length to bring them to and what comes out, written by hand.
func normCases() []struct {
	l    []api.Span
	n    int
	want []api.Span
} {
	return []struct {
		l    []api.Span
		n    int
		want []api.Span
	}{
		{nil, 0, nil}, {nil, 1, list(0, 1, 0)}, {nil, high, list(0, high, 0)}, {nil, -1, nil}, {nil, low, nil},
		{list(0, 4, 1), 0, nil}, {list(0, 4, 1), -1, nil}, {list(-9, -2, 1), -1, nil}, {list(low, high, 1), low, nil}, {list(low, high, 1), 0, nil},
		{list(3, 3, 1), 6, list(0, 6, 0)}, {list(4, 3, 1), 6, list(0, 6, 0)}, {list(high, low, 1), 6, list(0, 6, 0)},
		{list(0, 6, 2, 3, 3, 1), 6, list(0, 6, 2)}, {list(0, 6, 2, 5, 1, 1), 6, list(0, 6, 2)}, {list(0, 6, 2, 6, 0, 1), 6, list(0, 6, 2)},
		{list(-3, 0, 1), 6, list(0, 6, 0)}, {list(-3, -1, 1), 6, list(0, 6, 0)}, {list(low, 0, 1), 6, list(0, 6, 0)}, {list(low, low, 1), 6, list(0, 6, 0)},
		{list(-3, 1, 1), 6, list(0, 1, 1, 1, 6, 0)}, {list(low, 1, 1), 6, list(0, 1, 1, 1, 6, 0)},
		{list(6, 9, 1), 6, list(0, 6, 0)}, {list(7, 9, 1), 6, list(0, 6, 0)}, {list(6, high, 1), 6, list(0, 6, 0)}, {list(high, high, 1), 6, list(0, 6, 0)},
		{list(5, 9, 1), 6, list(0, 5, 0, 5, 6, 1)}, {list(5, high, 1), 6, list(0, 5, 0, 5, 6, 1)},
		{list(low, high, 1), 6, list(0, 6, 1)}, {list(-1, 7, 1), 6, list(0, 6, 1)}, {list(low, high, 1), high, list(0, high, 1)}, {list(low, high, low), 1, list(0, 1, low)},
		{list(high-1, high, 1), high, list(0, high-1, 0, high-1, high, 1)}, {list(0, 1, high, 1, high, low), high, list(0, 1, high, 1, high, low)},
		{list(0, 4, 1, 2, 9, 5), 6, list(0, 2, 1, 2, 6, 5)}, {list(2, 9, 5, 0, 4, 1), 6, list(0, 4, 1, 4, 6, 5)},
		{list(0, 6, 1, 2, 4, 5), 6, list(0, 2, 1, 2, 4, 5, 4, 6, 1)}, {list(2, 4, 5, 0, 6, 1), 6, list(0, 6, 1)},
		{list(0, 6, 1, 0, 4, 2), 6, list(0, 4, 2, 4, 6, 1)}, {list(0, 6, 1, 2, 6, 2), 6, list(0, 2, 1, 2, 6, 2)}, {list(1, 3, 1, 1, 3, 2), 6, list(0, 1, 0, 1, 3, 2, 3, 6, 0)},
		{list(0, 3, 1, 3, 6, 1), 6, list(0, 6, 1)}, {list(3, 6, 1, 0, 3, 1), 6, list(0, 6, 1)}, {list(0, 4, 1, 2, 6, 1), 6, list(0, 6, 1)},
		{list(0, 3, 1, 3, 6, 2), 6, list(0, 3, 1, 3, 6, 2)}, {list(3, 6, 2, 0, 3, 1), 6, list(0, 3, 1, 3, 6, 2)},
		{list(1, 2, 1, 3, 4, 1), 6, list(0, 1, 0, 1, 2, 1, 2, 3, 0, 3, 4, 1, 4, 6, 0)}, {list(3, 4, 1, 1, 2, 1), 6, list(0, 1, 0, 1, 2, 1, 2, 3, 0, 3, 4, 1, 4, 6, 0)},
		{list(0, 6, 1, 2, 4, 0), 6, list(0, 2, 1, 2, 4, 0, 4, 6, 1)}, {list(1, 4, 0), 6, list(0, 6, 0)}, {list(0, 2, 0, 2, 6, 3), 6, list(0, 2, 0, 2, 6, 3)},
		{list(0, 9, 1, 1, 8, 2, 2, 7, 3, 3, 6, 4, 4, 5, 5), 9, list(0, 1, 1, 1, 2, 2, 2, 3, 3, 3, 4, 4, 4, 5, 5, 5, 6, 4, 6, 7, 3, 7, 8, 2, 8, 9, 1)},
		{list(4, 5, 5, 3, 6, 4, 2, 7, 3, 1, 8, 2, 0, 9, 1), 9, list(0, 9, 1)},
		{list(0, 2, 1, 4, 6, 1, 1, 5, 2, 2, 4, 1), 6, list(0, 1, 1, 1, 2, 2, 2, 4, 1, 4, 5, 2, 5, 6, 1)},
		{list(0, 2, -1, 2, 4, 1), 4, list(0, 2, -1, 2, 4, 1)},
	}
}

func TestP5_1Norm(t *testing.T) {
	for _, c := range normCases() {
		same(t, Norm(c.l, c.n), c.want, "Norm", c.l, c.n)
	}
	pick := stream()
	for range 20000 {
		l := make([]api.Span, pick(7))
		for i := range l {
			from := pick(12) - 3
			l[i] = api.Span{From: from, To: from + pick(8) - 2, Val: pick(4) - 1}
		}
		for n := -1; n < 8; n++ {
			same(t, Norm(l, n), whole(painted(l, n)), "Norm", l, n)
		}
	}
}

// As many spans as R8 lets a list have.
func TestP5_1NormOfManySpans(t *testing.T) {
	const count = 1 << 16
	nested, apart := make([]api.Span, count), make([]api.Span, count)
	var vals []int
	for i := range nested {
		nested[i] = api.Span{From: i, To: 2*count - i, Val: i}
		// Seven and the count have no divisor in common, so that each place comes up once.
		at := i * 7 % count
		apart[i] = api.Span{From: at, To: at + 1, Val: at}
		vals = append(vals, i)
	}
	both := slices.Clone(vals)
	slices.Reverse(both)
	same(t, Norm(nested, 2*count), whole(append(slices.Clone(vals), both...)), "Norm", "of nested spans")
	same(t, Norm(apart, count), whole(vals), "Norm", "of spans out of order")
	slices.Reverse(nested)
	same(t, Norm(nested, 2*count), list(0, 2*count, 0), "Norm", "of spans, each within the next one")
}

func TestP5_2Whole(t *testing.T) {
	for _, c := range []struct {
		l    []api.Span
		n    int
		want bool
	}{
		{nil, 0, true}, {[]api.Span{}, 0, true}, {nil, 1, false}, {nil, -1, false}, {nil, low, false}, {nil, high, false},
		{list(0, 1, 0), 1, true}, {list(0, 1, 0), 0, false}, {list(0, 1, 0), 2, false}, {list(0, 1, 0), -1, false}, {list(0, high, 4), high, true}, {list(0, high, 4), low, false},
		{list(0, 0, 1), 0, false}, {list(0, -1, 1), -1, false}, {list(0, low, 1), low, false}, {list(0, -1, 1), 0, false},
		{list(1, 6, 1), 6, false}, {list(-1, 6, 1), 6, false}, {list(low, 6, 1), 6, false}, {list(-2, -1, 1), -1, false},
		{list(0, 2, 1, 2, 6, 5), 6, true}, {list(0, 2, 1, 2, 6, 5), 5, false}, {list(0, 2, 1, 2, 6, 5), 7, false}, {list(0, 2, 1, 2, 6, 5), 2, false}, {list(0, 2, 1, 2, 6, 5), -6, false},
		{list(0, 2, 1, 2, 6, 1), 6, false}, {list(0, 2, 0, 2, 6, 0), 6, false}, {list(0, 2, 1, 2, 4, 5, 4, 6, 5), 6, false}, {list(0, 2, 1, 2, 4, 5, 4, 6, 1), 6, true},
		{list(0, 2, 1, 3, 6, 5), 6, false}, {list(0, 2, 1, 1, 6, 5), 6, false}, {list(2, 6, 5, 0, 2, 1), 6, false}, {list(2, 6, 5, 0, 2, 1), 2, false},
		{list(0, 2, 1, 2, 2, 3, 2, 6, 5), 6, false}, {list(0, 2, 1, 2, 6, 5, 6, 6, 1), 6, false}, {list(0, 0, 1, 0, 6, 5), 6, false}, {list(0, 4, 1, 4, 2, 3, 2, 6, 5), 6, false},
		{list(0, 4, 1, 4, 2, 3), 2, false}, {list(0, 4, 1, 4, -1, 3), -1, false}, {list(0, 1, low, 1, high, high), high, true},
	} {
		if Whole(c.l, c.n) != c.want {
			t.Errorf("Whole(%v, %d) isn't %v", c.l, c.n, c.want)
		}
	}
	pick := stream()
	for range 20000 {
		l := make([]api.Span, pick(4))
		at := 0
		for i := range l {
			l[i] = api.Span{From: at, To: at + 1 + pick(2), Val: pick(2)}
			at = l[i].To
			if pick(9) == 0 {
				l[i].From, l[i].To = pick(6)-1, pick(6)-1
			}
		}
		for n := -1; n < 8; n++ {
			if Whole(l, n) != isWhole(l, n) {
				t.Fatalf("Whole(%v, %d) isn't %v", l, n, isWhole(l, n))
			}
		}
	}
}

func TestP5_3At(t *testing.T) {
	a := list(0, 2, 1, 2, 6, 5)
	over := list(4, 4, 9, 5, 3, 8, 2, 6, 5, 0, 9, 1, 2, 4, 7)
	ends := list(low, -5, 3, 7, high, 4, -4, -3, -2)
	for _, c := range []struct {
		l       []api.Span
		i, want int
	}{
		{nil, 0, 0}, {nil, low, 0}, {nil, high, 0}, {nil, -1, 0},
		{a, -1, 0}, {a, 0, 1}, {a, 1, 1}, {a, 2, 5}, {a, 5, 5}, {a, 6, 0}, {a, low, 0}, {a, high, 0},
		{over, -1, 0}, {over, 0, 1}, {over, 1, 1}, {over, 2, 5}, {over, 3, 5}, {over, 4, 5}, {over, 5, 5}, {over, 6, 1}, {over, 8, 1}, {over, 9, 0},
		{ends, low, 3}, {ends, -6, 3}, {ends, -5, 0}, {ends, -4, -2}, {ends, -3, 0}, {ends, 6, 0}, {ends, 7, 4}, {ends, high - 1, 4}, {ends, high, 0},
		{list(0, 4, 0, 0, 6, 1), 3, 0}, {list(0, 4, 0, 0, 6, 1), 4, 1}, {list(4, 6, 1, 0, 2, 3), 1, 3}, {list(4, 6, 1, 0, 2, 3), 3, 0}, {list(4, 6, 1, 0, 2, 3), 5, 1},
	} {
		if val := At(c.l, c.i); val != c.want {
			t.Errorf("At(%v, %d) = %d, not %d", c.l, c.i, val, c.want)
		}
	}
	values(6, func(vals []int) {
		l := whole(vals)
		for i := -2; i < 8; i++ {
			want := 0
			if inRange(i, 0, len(vals)) {
				want = vals[i]
			}
			if At(l, i) != want {
				t.Fatalf("At(%v, %d) = %d, not %d", l, i, At(l, i), want)
			}
		}
	})
}

func TestP5_4Set(t *testing.T) {
	a := list(0, 2, 1, 2, 6, 5)
	for _, c := range []struct {
		l             []api.Span
		from, to, val int
		want          []api.Span
	}{
		{nil, 0, 0, 1, nil}, {nil, 0, 5, 1, nil}, {nil, low, high, 1, nil},
		{a, 2, 2, 7, a}, {a, 4, 2, 7, a}, {a, high, low, 7, a}, {a, -5, 0, 7, a}, {a, low, -1, 7, a}, {a, 6, 9, 7, a}, {a, 7, high, 7, a}, {a, high, high, 7, a}, {a, low, low, 7, a},
		{a, low, high, 7, list(0, 6, 7)}, {a, -1, 7, 7, list(0, 6, 7)}, {a, 0, 6, 7, list(0, 6, 7)},
		{a, -4, 1, 7, list(0, 1, 7, 1, 2, 1, 2, 6, 5)}, {a, low, 1, 7, list(0, 1, 7, 1, 2, 1, 2, 6, 5)}, {a, 5, 9, 7, list(0, 2, 1, 2, 5, 5, 5, 6, 7)}, {a, 5, high, 7, list(0, 2, 1, 2, 5, 5, 5, 6, 7)},
		{a, 1, 4, 7, list(0, 1, 1, 1, 4, 7, 4, 6, 5)}, {a, 1, 4, 1, list(0, 4, 1, 4, 6, 5)}, {a, 1, 4, 5, list(0, 1, 1, 1, 6, 5)}, {a, 3, 4, 7, list(0, 2, 1, 2, 3, 5, 3, 4, 7, 4, 6, 5)},
		{a, 3, 4, 5, a}, {a, 0, 1, 1, a}, {a, 0, 2, 5, list(0, 6, 5)}, {a, 2, 6, 1, list(0, 6, 1)}, {a, 0, 2, 0, list(0, 2, 0, 2, 6, 5)},
		{list(0, 2, 1, 2, 4, 7, 4, 6, 1), 2, 4, 1, list(0, 6, 1)}, {list(0, 1, 1, 1, 2, 2, 2, 3, 3, 3, 4, 4), 1, 3, 9, list(0, 1, 1, 1, 3, 9, 3, 4, 4)},
		{list(0, high, 1), high - 1, high, 2, list(0, high-1, 1, high-1, high, 2)}, {list(0, high, 1), 1, high - 1, 2, list(0, 1, 1, 1, high-1, 2, high-1, high, 1)},
		{list(0, high, 1), low, high, 2, list(0, high, 2)}, {list(0, 1, low, 1, high, high), 0, 1, high, list(0, high, high)},
	} {
		same(t, Set(c.l, c.from, c.to, c.val), c.want, "Set", c.l, c.from, c.to, c.val)
	}
	values(5, func(vals []int) {
		for from := -2; from < 8; from++ {
			for to := -2; to < 8; to++ {
				for val := -1; val < 3; val++ {
					want := slices.Clone(vals)
					for i := range want {
						if inRange(i, from, to) {
							want[i] = val
						}
					}
					same(t, Set(whole(vals), from, to, val), whole(want), "Set", vals, from, to, val)
				}
			}
		}
	})
}

func TestP5_5Part(t *testing.T) {
	a := list(0, 2, 1, 2, 6, 5)
	big := list(0, 2, 1, 2, high, 5)
	for _, c := range []struct {
		l        []api.Span
		from, to int
		want     []api.Span
	}{
		{nil, 0, 0, nil}, {nil, 0, 5, nil}, {nil, low, high, nil},
		{a, 2, 2, nil}, {a, 4, 2, nil}, {a, high, low, nil}, {a, -5, 0, nil}, {a, low, -1, nil}, {a, 6, 9, nil}, {a, 7, high, nil}, {a, high, high, nil}, {a, low, low, nil}, {a, 1, low, nil}, {a, 6, 6, nil},
		{a, 0, 6, a}, {a, low, high, a}, {a, -1, 7, a}, {a, 0, 1, list(0, 1, 1)}, {a, 0, 2, list(0, 2, 1)}, {a, 2, 6, list(0, 4, 5)}, {a, 3, 4, list(0, 1, 5)},
		{a, 1, 4, list(0, 1, 1, 1, 3, 5)}, {a, -3, 4, list(0, 2, 1, 2, 4, 5)}, {a, low, 4, list(0, 2, 1, 2, 4, 5)}, {a, 1, 9, list(0, 1, 1, 1, 5, 5)}, {a, 1, high, list(0, 1, 1, 1, 5, 5)},
		{big, 1, high, list(0, 1, 1, 1, high-1, 5)}, {big, high - 1, high, list(0, 1, 5)}, {big, low, high, big}, {big, high, low, nil}, {big, high - 1, low, nil}, {big, 3, high - 1, list(0, high-4, 5)},
	} {
		same(t, Part(c.l, c.from, c.to), c.want, "Part", c.l, c.from, c.to)
	}
	values(6, func(vals []int) {
		for from := -2; from < 9; from++ {
			for to := -2; to < 9; to++ {
				var want []int
				for i, val := range vals {
					if inRange(i, from, to) {
						want = append(want, val)
					}
				}
				same(t, Part(whole(vals), from, to), whole(want), "Part", vals, from, to)
			}
		}
	})
}

// edited is the chapter's definition of Edit, position by position.
func edited(vals []int, at, cut, put, val int) []int {
	at = min(max(at, 0), len(vals))
	l := slices.Clone(vals[:at])
	for range max(put, 0) {
		l = append(l, val)
	}
	for i := at; i < len(vals); i++ {
		if i >= at+cut {
			l = append(l, vals[i])
		}
	}
	return l
}

func TestP5_6Edit(t *testing.T) {
	a := list(0, 2, 1, 2, 6, 5)
	for _, c := range []struct {
		l                 []api.Span
		at, cut, put, val int
		want              []api.Span
	}{
		{nil, 0, 0, 0, 1, nil}, {nil, 0, 3, 0, 1, nil}, {nil, 0, 0, 4, 1, list(0, 4, 1)}, {nil, 9, 3, 4, 0, list(0, 4, 0)}, {nil, -9, -3, 4, 1, list(0, 4, 1)}, {nil, low, low, low, 1, nil},
		{nil, high, high, low, 1, nil}, {nil, high, high, high, 1, list(0, high, 1)}, {nil, 0, 0, high, low, list(0, high, low)},
		{a, 1, 2, 3, 5, list(0, 1, 1, 1, 7, 5)}, {a, 1, 2, 3, 1, list(0, 4, 1, 4, 7, 5)}, {a, 1, 2, 3, 7, list(0, 1, 1, 1, 4, 7, 4, 7, 5)}, {a, 1, 2, 0, 7, list(0, 1, 1, 1, 4, 5)},
		{a, 0, 0, 2, 7, list(0, 2, 7, 2, 4, 1, 4, 8, 5)}, {a, -4, 0, 2, 7, list(0, 2, 7, 2, 4, 1, 4, 8, 5)}, {a, low, 0, 2, 7, list(0, 2, 7, 2, 4, 1, 4, 8, 5)}, {a, -4, 1, 2, 7, list(0, 2, 7, 2, 3, 1, 3, 7, 5)},
		{a, 6, 0, 2, 7, list(0, 2, 1, 2, 6, 5, 6, 8, 7)}, {a, 9, 0, 2, 7, list(0, 2, 1, 2, 6, 5, 6, 8, 7)}, {a, high, high, 2, 7, list(0, 2, 1, 2, 6, 5, 6, 8, 7)}, {a, high, 1, 2, 5, list(0, 2, 1, 2, 8, 5)},
		{a, 2, 0, 2, 1, list(0, 4, 1, 4, 8, 5)}, {a, 2, 0, 2, 5, list(0, 2, 1, 2, 8, 5)}, {a, 2, 0, 2, 7, list(0, 2, 1, 2, 4, 7, 4, 8, 5)}, {a, 2, 0, 0, 7, a}, {a, 3, 0, 0, 7, a}, {a, 0, 0, 0, 7, a}, {a, 6, 0, 0, 7, a},
		{a, 3, -1, -1, 7, a}, {a, 3, low, low, 7, a}, {a, 3, -1, 1, 7, list(0, 2, 1, 2, 3, 5, 3, 4, 7, 4, 7, 5)}, {a, 3, low, 1, 7, list(0, 2, 1, 2, 3, 5, 3, 4, 7, 4, 7, 5)}, {a, 3, 1, low, 7, list(0, 2, 1, 2, 5, 5)},
		{a, 3, 9, 1, 7, list(0, 2, 1, 2, 3, 5, 3, 4, 7)}, {a, 3, high, 1, 7, list(0, 2, 1, 2, 3, 5, 3, 4, 7)}, {a, 3, 3, 0, 7, list(0, 2, 1, 2, 3, 5)}, {a, 3, 4, 0, 7, list(0, 2, 1, 2, 3, 5)},
		{a, 0, 6, 0, 7, nil}, {a, low, high, low, 7, nil}, {a, low, high, 3, 7, list(0, 3, 7)}, {a, 0, 2, 0, 7, list(0, 4, 5)}, {a, 0, 2, 2, 5, list(0, 6, 5)},
		{list(0, 2, 1, 2, 4, 7, 4, 6, 1), 2, 2, 0, 9, list(0, 4, 1)}, {list(0, 2, 1, 2, 4, 7, 4, 6, 1), 1, 4, 0, 9, list(0, 2, 1)}, {list(0, 2, 1, 2, 4, 7, 4, 6, 1), 2, 2, 3, 1, list(0, 7, 1)},
		{a, 2, 0, high - 6, 7, list(0, 2, 1, 2, high-4, 7, high-4, high, 5)}, {a, 6, 0, high - 6, 5, list(0, 2, 1, 2, high, 5)}, {a, 0, 0, high - 6, 7, list(0, high-6, 7, high-6, high-4, 1, high-4, high, 5)},
		{a, 0, 6, high, 7, list(0, high, 7)}, {a, 1, 4, high - 2, 7, list(0, 1, 1, 1, high-1, 7, high-1, high, 5)}, {list(0, high, 1), 5, high - 5, high - 5, 2, list(0, 5, 1, 5, high, 2)},
		{list(0, high, 1), 5, high, high - 5, 2, list(0, 5, 1, 5, high, 2)}, {list(0, high, 1), 5, high - 6, 0, 2, list(0, 6, 1)}, {list(0, high, 1), high, high, 0, 2, list(0, high, 1)}, {list(0, high, 1), 0, high, high, 2, list(0, high, 2)},
	} {
		same(t, Edit(c.l, c.at, c.cut, c.put, c.val), c.want, "Edit", c.l, c.at, c.cut, c.put, c.val)
	}
	values(4, func(vals []int) {
		for at := -2; at < 7; at++ {
			for cut := -2; cut < 7; cut++ {
				for put := -2; put < 4; put++ {
					for val := -1; val < 3; val++ {
						same(t, Edit(whole(vals), at, cut, put, val), whole(edited(vals, at, cut, put, val)), "Edit", vals, at, cut, put, val)
					}
				}
			}
		}
	})
}

func TestP5_7Bounds(t *testing.T) {
	for _, c := range []struct {
		l    []api.Span
		want []int
	}{
		{nil, nil}, {[]api.Span{}, nil}, {list(0, 1, 0), []int{0, 1}}, {list(0, high, 3), []int{0, high}}, {list(0, 2, 1, 2, 6, 5), []int{0, 2, 6}},
		{list(0, 1, 1, 1, 2, 0, 2, 3, 1, 3, high, 0), []int{0, 1, 2, 3, high}},
	} {
		if b := Bounds(c.l); !slices.Equal(b, c.want) {
			t.Errorf("Bounds(%v) = %v, not %v", c.l, b, c.want)
		}
	}
	values(6, func(vals []int) {
		var want []int
		for i := range len(vals) + 1 {
			if i == 0 || i == len(vals) || vals[i-1] != vals[i] {
				want = append(want, i)
			}
		}
		if len(vals) == 0 {
			want = nil
		}
		if b := Bounds(whole(vals)); !slices.Equal(b, want) {
			t.Fatalf("Bounds of %v = %v, not %v", vals, b, want)
		}
	})
}

// weigh tells its arguments apart, also which is which; level doesn't tell anything apart.
func weigh(x, y int) int { return 10*x + y }

func level(x, y int) int { return 7 }

func TestP5_8Meet(t *testing.T) {
	a, b := list(0, 2, 1, 2, 6, 5), list(0, 4, 2)
	first := func(x, y int) int { return x }
	second := func(x, y int) int { return y }
	for _, c := range []struct {
		a, b []api.Span
		f    func(x, y int) int
		want []api.Span
	}{
		{nil, nil, weigh, nil}, {a, nil, weigh, nil}, {nil, a, weigh, nil}, {[]api.Span{}, b, level, nil},
		{a, b, weigh, list(0, 2, 12, 2, 4, 52)}, {b, a, weigh, list(0, 2, 21, 2, 4, 25)}, {a, b, level, list(0, 4, 7)}, {b, a, level, list(0, 4, 7)}, {a, b, second, b}, {b, a, first, b}, {a, a, first, a},
		{a, b, first, list(0, 2, 1, 2, 4, 5)}, {a, list(0, 9, 0), first, a}, {a, list(0, 9, 0), second, list(0, 6, 0)}, {a, a, weigh, list(0, 2, 11, 2, 6, 55)}, {a, list(0, 1, 4), weigh, list(0, 1, 14)},
		{a, list(0, 2, 3, 2, 8, 4), weigh, list(0, 2, 13, 2, 6, 54)}, {a, list(0, 2, 5, 2, 8, 1), func(x, y int) int { return x + y }, list(0, 6, 6)}, {a, list(0, 3, 3, 3, 5, 4, 5, 6, 3), weigh, list(0, 2, 13, 2, 3, 53, 3, 5, 54, 5, 6, 53)},
		{a, list(0, 3, 3, 3, 5, 4, 5, 6, 3), first, a}, {list(0, high, 1), list(0, 5, 2, 5, high, 3), weigh, list(0, 5, 12, 5, high, 13)}, {list(0, high, 1), a, weigh, list(0, 2, 11, 2, 6, 15)},
	} {
		same(t, Meet(c.a, c.b, c.f), c.want, "Meet", c.a, c.b)
	}
	values(4, func(x []int) {
		values(4, func(y []int) {
			for i, f := range []func(x, y int) int{weigh, level, first, second, func(x, y int) int { return x * y }} {
				var want []int
				for i := range min(len(x), len(y)) {
					want = append(want, f(x[i], y[i]))
				}
				same(t, Meet(whole(x), whole(y), f), whole(want), "Meet", x, y, i)
			}
		})
	})
}

// A function that is nil is none that the chapter promises anything for; the call returns nonetheless.
func TestP5_8MeetWithoutFunction(t *testing.T) {
	same(t, Meet(list(0, 2, 1), list(0, 2, 1), nil), nil, "Meet")
}

// results calls visit with the answers of the calls that answer whole lists, and their lengths.
func results(l []api.Span, n int, visit func(got []api.Span, n int)) {
	visit(Norm(l, n), n)
	for i := -1; i <= n+1; i++ {
		for j := i; j <= n+1; j++ {
			visit(Set(l, i, j, 1), n)
			part := max(min(j, n)-max(i, 0), 0)
			visit(Part(l, i, j), part)
			at := min(max(i, 0), n)
			cut := min(max(j-i, 0), n-at)
			visit(Edit(l, i, j-i, 2, 1), n-cut+2)
			visit(Meet(l, Part(l, i, j), level), part)
		}
	}
}

func TestP5_9WholeResults(t *testing.T) {
	values(5, func(vals []int) {
		l := whole(vals)
		results(l, len(vals), func(got []api.Span, n int) {
			if !Whole(got, n) || !isWhole(got, n) {
				t.Fatalf("a result from %v: %v isn't whole for %d", l, got, n)
			}
		})
		same(t, Norm(l, len(vals)), l, "Norm", l)
	})
	for _, l := range [][]api.Span{list(0, high, 0), list(0, high, 3), list(0, 1, low, 1, high-1, 0, high-1, high, low)} {
		same(t, Norm(l, high), l, "Norm", l)
	}
}

func TestP5_10SetAndPart(t *testing.T) {
	values(5, func(vals []int) {
		l, n := whole(vals), len(vals)
		same(t, Part(l, 0, n), l, "Part", l)
		for from := -1; from <= n+1; from++ {
			for to := -1; to <= n+1; to++ {
				same(t, Set(Set(l, from, to, 8), from, to, -1), Set(l, from, to, -1), "Set twice", l, from, to)
				same(t, Set(l, from, from+1, At(l, from)), l, "Set", l, from)
				joined(t, l, from, to, n)
			}
		}
		for _, part := range l {
			same(t, Set(l, part.From, part.To, part.Val), l, "Set", l, part)
		}
	})
}

// joined holds the Parts of [from, to) and of [to, end) against the Part of both.
func joined(t *testing.T, l []api.Span, from, to, end int) {
	t.Helper()
	if from < 0 || to < from || to > end {
		return
	}
	parts := Part(l, from, to)
	for _, part := range Part(l, to, end) {
		parts = append(parts, api.Span{From: part.From + to - from, To: part.To + to - from, Val: part.Val})
	}
	same(t, Norm(parts, end-from), Part(l, from, end), "Part and Part", l, from, to)
}

func TestP5_11EditAsSet(t *testing.T) {
	values(5, func(vals []int) {
		l, n := whole(vals), len(vals)
		for from := range n + 1 {
			for to := from; to <= n; to++ {
				for val := -1; val < 3; val++ {
					same(t, Edit(l, from, to-from, to-from, val), Set(l, from, to, val), "Edit", l, from, to, val)
				}
			}
		}
		for at := -2; at <= n+2; at++ {
			same(t, Edit(l, at, 0, 0, 9), l, "Edit", l, at)
			same(t, Edit(l, at, -1, -2, 9), l, "Edit", l, at)
		}
	})
}

// R1 promises nothing for lists that aren't whole, but each call has to return.
func TestR1OtherLists(t *testing.T) {
	pick := stream()
	edges := []int{low, low + 1, -2, -1, 0, 1, 2, 3, high - 1, high}
	for range 20000 {
		l := make([]api.Span, pick(4))
		for i := range l {
			l[i] = api.Span{From: edges[pick(10)], To: edges[pick(10)], Val: edges[pick(10)]}
		}
		from, to, put := edges[pick(10)], edges[pick(10)], edges[pick(10)]
		Norm(l, to)
		Whole(l, to)
		At(l, from)
		Set(l, from, to, put)
		Part(l, from, to)
		Edit(l, from, to, put, 1)
		Bounds(l)
		Meet(l, l[len(l)/2:], weigh)
	}
}

// calls are calls that answer lists, each by its name.
func calls() map[string]func(a, b []api.Span) []api.Span {
	return map[string]func(a, b []api.Span) []api.Span{
		"Norm":           func(a, b []api.Span) []api.Span { return Norm(a, 6) },
		"Norm, longer":   func(a, b []api.Span) []api.Span { return Norm(a, 20) },
		"Norm, shorter":  func(a, b []api.Span) []api.Span { return Norm(a, 3) },
		"Set":            func(a, b []api.Span) []api.Span { return Set(a, 1, 3, 9) },
		"Set of nothing": func(a, b []api.Span) []api.Span { return Set(a, 3, 3, 9) },
		"Set as it is":   func(a, b []api.Span) []api.Span { return Set(a, 3, 4, 5) },
		"Set of all":     func(a, b []api.Span) []api.Span { return Set(a, 0, 6, 5) },
		"Part":           func(a, b []api.Span) []api.Span { return Part(a, 1, 5) },
		"Part of all":    func(a, b []api.Span) []api.Span { return Part(a, 0, 6) },
		"Edit":           func(a, b []api.Span) []api.Span { return Edit(a, 1, 2, 3, 5) },
		"Edit, nothing":  func(a, b []api.Span) []api.Span { return Edit(a, 1, 0, 0, 5) },
		"Edit at 0":      func(a, b []api.Span) []api.Span { return Edit(a, 0, 0, 3, 1) },
		"Edit at end":    func(a, b []api.Span) []api.Span { return Edit(a, 6, 0, 3, 5) },
		"Meet":           func(a, b []api.Span) []api.Span { return Meet(a, b, weigh) },
		"Meet, first":    func(a, b []api.Span) []api.Span { return Meet(a, b, func(x, y int) int { return x }) },
		"Meet, swapped":  func(a, b []api.Span) []api.Span { return Meet(b, a, weigh) },
	}
}

// roomy returns the list with room behind it, which a call might write to.
func roomy(l []api.Span) (part, memory []api.Span) {
	memory = append(slices.Clone(l), list(90, 91, 92, 93, 94, 95, 96, 97, 98)...)
	return memory[:len(l)], memory
}

// spoil writes to all memory of the list, also to the room behind it.
func spoil(l []api.Span) {
	for i := range l[:cap(l)] {
		l[:cap(l)][i] = api.Span{From: -7, To: -8, Val: -9}
	}
}

func TestR5ArgumentsAndResults(t *testing.T) {
	first, second := list(0, 2, 1, 2, 6, 5), list(0, 3, 4, 3, 6, 2, 6, 8, 1)
	for name, call := range calls() {
		a, aMemory := roomy(first)
		b, bMemory := roomy(second)
		aBefore, bBefore := slices.Clone(aMemory), slices.Clone(bMemory)
		got := call(a, b)
		want := slices.Clone(got)
		same(t, aMemory, aBefore, name+": the first argument")
		same(t, bMemory, bBefore, name+": the second argument")
		spoil(got)
		same(t, aMemory, aBefore, name+": the first argument, with the result written to")
		same(t, bMemory, bBefore, name+": the second argument, with the result written to")
		got = call(a, b)
		same(t, got, want, name+": the second call")
		spoil(a)
		spoil(b)
		same(t, got, want, name+": the result, with the arguments written to")
	}
}

func TestR5NumbersOnly(t *testing.T) {
	a, memory := roomy(list(0, 2, 1, 2, 6, 5))
	before := slices.Clone(memory)
	b := Bounds(a)
	if At(a, 3) != 5 || !Whole(a, 6) || !slices.Equal(b, []int{0, 2, 6}) {
		t.Error("At, Whole or Bounds")
	}
	same(t, memory, before, "the argument of At, Whole and Bounds")
	for i := range b[:cap(b)] {
		b[:cap(b)][i] = -7
	}
	if b = Bounds(a); !slices.Equal(b, []int{0, 2, 6}) {
		t.Error(b)
	}
	spoil(a)
	if !slices.Equal(b, []int{0, 2, 6}) {
		t.Error(b)
	}
}

func TestExamples(t *testing.T) {
	a := list(0, 2, 1, 2, 6, 5)
	same(t, Norm(list(0, 4, 1, 2, 9, 5), 6), a, "Norm")
	same(t, Norm(nil, 3), list(0, 3, 0), "Norm")
	b := Set(list(0, 6, 1), 2, 4, 7)
	same(t, b, list(0, 2, 1, 2, 4, 7, 4, 6, 1), "Set")
	same(t, Set(b, 2, 4, 1), list(0, 6, 1), "Set")
	same(t, Part(a, 1, 4), list(0, 1, 1, 1, 3, 5), "Part")
	same(t, Edit(a, 1, 2, 3, 5), list(0, 1, 1, 1, 7, 5), "Edit")
	if bounds := Bounds(a); !slices.Equal(bounds, []int{0, 2, 6}) {
		t.Error(bounds)
	}
}
