package nums

import (
	"math"
	"math/big"
	"slices"
	"testing"
)

const edge = 1 << 40

// corners are the numbers at which the functions change what they do, and the ends of an int.
func corners() []int {
	l := []int{0}
	for _, n := range []int{1, 2, 3, 5, 7, 10, 1000, 1 << 20, edge - 1, edge, edge + 1, 1 << 62, math.MaxInt - 1, math.MaxInt} {
		l = append(l, n, -n)
	}
	return append(l, math.MinInt)
}

// positive returns the numbers of corners that may be a divisor.
func positive() []int {
	return slices.DeleteFunc(corners(), func(n int) bool { return n < 1 })
}

// stream returns numbers of all sizes, the same ones each time.
func stream(count int) []int {
	l := make([]int, count)
	state := uint64(1)
	for i := range l {
		state = state*6364136223846793005 + 1442695040888963407
		mixed := state ^ state>>29
		l[i] = int(mixed) >> (mixed >> 3 % 64)
	}
	return l
}

func bigOf(n int) *big.Int { return big.NewInt(int64(n)) }

// floorBig returns the floor of n * num / den exactly, for den above 0.
func floorBig(n, num, den int) *big.Int {
	product := new(big.Int).Mul(bigOf(n), bigOf(num))
	return product.Div(product, bigOf(den))
}

// scaleBig is Scale as the chapter defines it: the floor of x + 1/2, clamped.
func scaleBig(n, num, den int) int {
	if den < 1 {
		return 0
	}
	x := new(big.Int).Mul(bigOf(n), bigOf(num))
	x.Add(x.Lsh(x, 1), bigOf(den))
	x.Div(x, new(big.Int).Lsh(bigOf(den), 1))
	if x.Cmp(bigOf(edge)) > 0 {
		return edge
	}
	if x.Cmp(bigOf(-edge)) < 0 {
		return -edge
	}
	return int(x.Int64())
}

// weigh returns the sums of the first weights, from none to all, negative ones counting as 0.
func weigh(w []int) []int {
	sums := []int{0}
	for _, weight := range w {
		sums = append(sums, sums[len(sums)-1]+max(weight, 0))
	}
	return sums
}

// shareBig is Share as the chapter defines it.
func shareBig(total int, w []int) []int {
	sums := weigh(w)
	whole := sums[len(w)]
	if whole == 0 {
		return nil
	}
	var parts []int
	for i := range w {
		after, before := floorBig(total, sums[i+1], whole), floorBig(total, sums[i], whole)
		parts = append(parts, int(after.Sub(after, before).Int64()))
	}
	return parts
}

// weightLists are lists of weights whose sums are ints.
func weightLists() [][]int {
	l := [][]int{
		nil, {}, {0}, {-1}, {0, -3}, {math.MinInt, 0}, {1}, {-5, 1}, {1, -5}, {0, 1, 0}, {1, 1}, {1, 1, 1}, {3, 0, -2, 4, 1},
		{1, 2, 3, 4, 5, 6, 7}, {math.MaxInt}, {math.MaxInt - 1, 1}, {1, math.MaxInt - 1}, {1 << 62, math.MinInt, 1<<62 - 1},
		{edge, edge, -edge, edge + 1}, {7, 0, 0, 7, 0, 7},
	}
	numbers := stream(300)
	for i := 0; i+9 <= len(numbers); i += 1 + i%9 {
		var w []int
		for _, n := range numbers[i : i+1+i%9] {
			w = append(w, n>>4)
		}
		l = append(l, w)
	}
	return l
}

func TestP1_1Clamp(t *testing.T) {
	for _, x := range [][4]int{
		{5, 1, 9, 5}, {0, 1, 9, 1}, {1, 1, 9, 1}, {9, 1, 9, 9}, {10, 1, 9, 9}, {5, 3, 3, 3}, {2, 3, 3, 3}, {3, 3, 3, 3},
		{5, 9, 1, 9}, {0, 9, 1, 9}, {20, 9, 1, 9}, {9, 9, 8, 9}, {-5, -9, -1, -5}, {-10, -9, -1, -9}, {0, -9, -1, -1},
		{math.MinInt, math.MinInt, math.MaxInt, math.MinInt}, {math.MaxInt, math.MinInt, math.MaxInt, math.MaxInt},
		{0, math.MaxInt, math.MinInt, math.MaxInt}, {math.MaxInt, 0, 0, 0}, {math.MinInt, 0, 0, 0},
	} {
		if got := Clamp(x[0], x[1], x[2]); got != x[3] {
			t.Errorf("Clamp(%d, %d, %d) = %d, not %d", x[0], x[1], x[2], got, x[3])
		}
	}
}

func TestP1_1ClampEverywhere(t *testing.T) {
	for _, n := range corners() {
		for _, lo := range corners() {
			for _, hi := range corners() {
				want := n
				if hi < lo {
					want = lo
				} else {
					want = min(max(want, lo), hi)
				}
				if got := Clamp(n, lo, hi); got != want {
					t.Fatalf("Clamp(%d, %d, %d) = %d, not %d", n, lo, hi, got, want)
				}
			}
		}
	}
}

func TestP1_2Scale(t *testing.T) {
	for _, x := range [][4]int{
		{6, 1, 2, 3}, {10, 3, 4, 8}, {10, 1, 3, 3}, {20, 1, 3, 7}, {-10, 1, 3, -3}, {-20, 1, 3, -7}, {0, 5, 7, 0}, {0, -5, 7, 0},
		// Halves go up, whichever factor is negative.
		{7, 1, 2, 4}, {-7, 1, 2, -3}, {7, -1, 2, -3}, {-7, -1, 2, 4}, {1, 1, 2, 1}, {-1, 1, 2, 0}, {1, -1, 2, 0}, {-1, -1, 2, 1}, {5, -3, 10, -1},
		// A divisor below 1 answers 0.
		{10, 3, 0, 0}, {10, 3, -1, 0}, {10, -3, -1, 0}, {edge, edge, math.MinInt, 0}, {0, 0, 0, 0},
		// Products beyond an int.
		{1 << 62, 1 << 62, 1 << 62, edge}, {math.MinInt, 1, 1 << 62, -2}, {math.MinInt, math.MinInt, math.MaxInt, edge},
		{math.MinInt, math.MaxInt, math.MaxInt, -edge}, {1 << 50, 1 << 50, 1 << 62, 1 << 38}, {1 << 50, -1 << 50, 1 << 62, -1 << 38},
		{math.MinInt, math.MinInt, 1, edge}, {math.MinInt, math.MaxInt, 1, -edge}, {math.MaxInt, math.MaxInt, 1, edge},
		// Both clamps, on their edges and beside them.
		{edge, 1, 1, edge}, {-edge, 1, 1, -edge}, {edge + 1, 1, 1, edge}, {-edge - 1, 1, 1, -edge}, {edge - 1, 1, 1, edge - 1}, {1 - edge, 1, 1, 1 - edge},
		{2*edge - 1, 1, 2, edge}, {2*edge - 2, 1, 2, edge - 1}, {2*edge + 1, 1, 2, edge}, {1 - 2*edge, 1, 2, 1 - edge}, {-1 - 2*edge, 1, 2, -edge},
		{edge, 3, 2, edge}, {-edge, 3, 2, -edge},
	} {
		if got := Scale(x[0], x[1], x[2]); got != x[3] {
			t.Errorf("Scale(%d, %d, %d) = %d, not %d", x[0], x[1], x[2], got, x[3])
		}
	}
}

func TestP1_2ScaleIsExact(t *testing.T) {
	check := func(n, num, den int) {
		if got, want := Scale(n, num, den), scaleBig(n, num, den); got != want {
			t.Fatalf("Scale(%d, %d, %d) = %d, not %d", n, num, den, got, want)
		}
	}
	for _, n := range corners() {
		for _, num := range corners() {
			for _, den := range corners() {
				check(n, num, den)
			}
		}
	}
	l := stream(30000)
	for i := 0; i+3 <= len(l); i += 3 {
		check(l[i], l[i+1], l[i+2])
		check(l[i], l[i+1], max(l[i+1], 1))
	}
	for n := -40; n <= 40; n++ {
		for num := -5; num <= 5; num++ {
			for den := -1; den <= 12; den++ {
				check(n, num, den)
			}
		}
	}
}

func TestP1_3Floor(t *testing.T) {
	for _, x := range [][4]int{
		{7, 2, 3, 1}, {-7, 2, -4, 1}, {6, 2, 3, 0}, {-6, 2, -3, 0}, {0, 5, 0, 0}, {-1, 5, -1, 4}, {4, 5, 0, 4}, {-5, 5, -1, 0}, {-9, 1, -9, 0},
		{7, 0, 0, 0}, {7, -2, 0, 0}, {-7, -2, 0, 0}, {-7, 0, 0, 0}, {5, math.MinInt, 0, 0},
		{math.MinInt, 1, math.MinInt, 0}, {math.MinInt, math.MaxInt, -2, math.MaxInt - 1}, {math.MaxInt, math.MaxInt, 1, 0},
		{math.MinInt, -1, 0, 0}, {-1, math.MaxInt, -1, math.MaxInt - 1},
	} {
		if q, r := Floor(x[0], x[1]); q != x[2] || r != x[3] {
			t.Errorf("Floor(%d, %d) = %d, %d, not %d, %d", x[0], x[1], q, r, x[2], x[3])
		}
	}
}

func TestP1_4Share(t *testing.T) {
	for _, x := range []struct {
		total   int
		w, want []int
	}{
		{10, []int{1, 1, 1}, []int{3, 3, 4}}, {-1, []int{1, 1}, []int{-1, 0}}, {-10, []int{1, 1, 1}, []int{-4, -3, -3}},
		{10, []int{1, 0, 3, -7, 1}, []int{2, 0, 6, 0, 2}}, {0, []int{1, 2}, []int{0, 0}}, {1, []int{1, 1, 1}, []int{0, 0, 1}},
		{5, []int{-3, 2}, []int{0, 5}}, {5, nil, nil}, {5, []int{}, nil}, {5, []int{0}, nil}, {5, []int{0, -3}, nil}, {-5, []int{-1, -1}, nil},
		{math.MinInt, []int{math.MaxInt}, []int{math.MinInt}}, {math.MaxInt, []int{math.MaxInt}, []int{math.MaxInt}},
		{math.MinInt, []int{1, 1}, []int{-1 << 62, -1 << 62}}, {math.MaxInt, []int{1, 1}, []int{1<<62 - 1, 1 << 62}},
		{math.MinInt, []int{math.MinInt, 9, math.MinInt}, []int{0, math.MinInt, 0}},
	} {
		if got := Share(x.total, x.w); !slices.Equal(got, x.want) {
			t.Errorf("Share(%d, %d) = %d, not %d", x.total, x.w, got, x.want)
		}
	}
}

func TestP1_4ShareIsExact(t *testing.T) {
	for _, w := range weightLists() {
		for _, total := range append(corners(), stream(40)...) {
			if got, want := Share(total, w), shareBig(total, w); !slices.Equal(got, want) {
				t.Fatalf("Share(%d, %d) = %d, not %d", total, w, got, want)
			}
		}
	}
}

func TestP1_4ShareKeepsItsArgument(t *testing.T) {
	w := []int{3, -1, 0, 4}
	parts := Share(70, w)
	if !slices.Equal(w, []int{3, -1, 0, 4}) {
		t.Fatal("the weights were changed:", w)
	}
	parts[0] = 9
	if !slices.Equal(w, []int{3, -1, 0, 4}) || !slices.Equal(Share(70, w), []int{30, 0, 0, 40}) {
		t.Fatal("the answer shares memory:", w)
	}
}

// The chapter promises nothing for sums of weights beyond an int, but even then a call must not panic.
func TestR1ShareOfTooGreatWeightsEnds(t *testing.T) {
	for _, w := range [][]int{{math.MaxInt, 1}, {math.MaxInt, math.MaxInt}, {math.MaxInt, math.MaxInt, 2}, {1, math.MaxInt, math.MaxInt, math.MaxInt}} {
		for _, total := range corners() {
			sum := 0
			for _, part := range Share(total, w) {
				sum += part
			}
			if sum != total {
				t.Fatalf("the parts of Share(%d, %d) add up to %d", total, w, sum)
			}
		}
	}
}

func TestP1_5Split(t *testing.T) {
	for _, x := range []struct {
		total, parts int
		want         []int
	}{
		{7, 2, []int{3, 4}}, {-7, 2, []int{-4, -3}}, {7, 1, []int{7}}, {2, 4, []int{0, 1, 0, 1}}, {0, 3, []int{0, 0, 0}},
		{7, 0, nil}, {7, -1, nil}, {7, math.MinInt, nil}, {7, 65537, nil}, {7, math.MaxInt, nil},
	} {
		if got := Split(x.total, x.parts); !slices.Equal(got, x.want) {
			t.Errorf("Split(%d, %d) = %d, not %d", x.total, x.parts, got, x.want)
		}
	}
}

func TestP1_5SplitIsShareOfOnes(t *testing.T) {
	for _, parts := range []int{1, 2, 3, 10, 1000, 65535, 65536} {
		ones := slices.Repeat([]int{1}, parts)
		for _, total := range []int{0, 1, -1, 65536, 100000, -100000, math.MaxInt, math.MinInt} {
			got := Split(total, parts)
			if len(got) != parts || !slices.Equal(got, Share(total, ones)) {
				t.Fatalf("Split(%d, %d) is not Share of as many ones", total, parts)
			}
		}
	}
}

func TestP1_6Sat(t *testing.T) {
	for _, x := range []struct {
		l    []int
		want int
	}{
		{nil, 0}, {[]int{}, 0}, {[]int{5}, 5}, {[]int{1, 2, 3}, 6}, {[]int{-1, -2, 4}, 1},
		{[]int{edge}, edge}, {[]int{-edge}, -edge}, {[]int{edge + 1}, edge}, {[]int{-edge - 1}, -edge},
		// The sum is held after each term, so what follows counts from the edge.
		{[]int{edge, 5, -5}, edge - 5}, {[]int{-edge, -5, 5}, 5 - edge}, {[]int{edge, -5, 5}, edge}, {[]int{-5, edge, 5}, edge},
		{[]int{edge, edge, -edge}, 0}, {[]int{edge, -edge, -edge, edge}, 0},
		{[]int{math.MaxInt}, edge}, {[]int{math.MinInt}, -edge}, {[]int{edge, math.MaxInt}, edge}, {[]int{-edge, math.MinInt}, -edge},
		{[]int{1, math.MaxInt, -1}, edge - 1}, {[]int{-1, math.MinInt, 1}, 1 - edge}, {[]int{math.MaxInt, math.MinInt}, -edge},
		{[]int{math.MinInt, math.MaxInt}, edge}, {[]int{-edge, 2 * edge}, edge}, {[]int{-edge, 2*edge - 1}, edge - 1}, {[]int{edge, 1 - 2*edge}, 1 - edge},
	} {
		if got := Sat(x.l...); got != x.want {
			t.Errorf("Sat(%d) = %d, not %d", x.l, got, x.want)
		}
	}
}

func TestP1_6SatStepByStep(t *testing.T) {
	l := append(corners(), stream(3000)...)
	sum := new(big.Int)
	for i, term := range l {
		sum.Add(sum, bigOf(term))
		if sum.Cmp(bigOf(edge)) > 0 {
			sum.SetInt64(edge)
		}
		if sum.Cmp(bigOf(-edge)) < 0 {
			sum.SetInt64(-edge)
		}
		if got := Sat(l[:i+1]...); bigOf(got).Cmp(sum) != 0 {
			t.Fatalf("Sat of the first %d terms is %d, not %d", i+1, got, sum)
		}
	}
}

func TestP1_7PartsOfShare(t *testing.T) {
	for _, w := range weightLists() {
		sums := weigh(w)
		whole := bigOf(sums[len(w)])
		for _, total := range append(corners(), stream(40)...) {
			sum := 0
			parts := Share(total, w)
			for i, part := range parts {
				sum += part
				if total >= 0 && part < 0 {
					t.Fatalf("Share(%d, %d) has the negative part %d", total, w, part)
				}
				if w[i] <= 0 && part != 0 {
					t.Fatalf("Share(%d, %d) gives %d to the weight %d", total, w, part, w[i])
				}
				// |part * W - total * weight| < W is |part - total * weight / W| < 1, without a fraction.
				off := new(big.Int).Mul(bigOf(part), whole)
				off.Sub(off, new(big.Int).Mul(bigOf(total), bigOf(max(w[i], 0))))
				if off.CmpAbs(whole) >= 0 {
					t.Fatalf("part %d of Share(%d, %d), %d, is off by 1 or more", i, total, w, part)
				}
			}
			if len(parts) > 0 && sum != total {
				t.Fatalf("the parts of Share(%d, %d) add up to %d", total, w, sum)
			}
		}
	}
}

func TestP1_8ScaleByOneIsClamp(t *testing.T) {
	for _, n := range append(corners(), stream(500)...) {
		for _, den := range positive() {
			if got, want := Scale(n, den, den), Clamp(n, -edge, edge); got != want {
				t.Fatalf("Scale(%d, %d, %d) = %d, not %d", n, den, den, got, want)
			}
		}
	}
}

func TestP1_8ScaleIsMonotone(t *testing.T) {
	l := append(corners(), stream(100)...)
	for n := -50; n <= 50; n++ {
		l = append(l, n)
	}
	slices.Sort(l)
	for _, num := range append(positive(), 0) {
		for _, den := range positive() {
			before := math.MinInt
			for _, n := range l {
				got := Scale(n, num, den)
				if got < before {
					t.Fatalf("Scale(%d, %d, %d) = %d is below %d of a lesser number", n, num, den, got, before)
				}
				before = got
			}
		}
	}
}

func TestP1_8ScaleOfTheNegative(t *testing.T) {
	for n := -2000; n <= 2000; n += 7 {
		for _, num := range []int{0, 1, -1, 3, -5, 1 << 20} {
			for _, den := range []int{1, 2, 3, 10, 999, 1 << 21, math.MaxInt} {
				sum := Scale(-n, num, den) + Scale(n, num, den)
				if sum < -1 || sum > 1 {
					t.Fatalf("Scale of %d and %d by %d / %d add up to %d", n, -n, num, den, sum)
				}
			}
		}
	}
}

func TestP1_9FloorAddsUp(t *testing.T) {
	for _, n := range append(corners(), stream(500)...) {
		for _, by := range positive() {
			q, r := Floor(n, by)
			sum := new(big.Int).Mul(bigOf(q), bigOf(by))
			if sum.Add(sum, bigOf(r)).Cmp(bigOf(n)) != 0 || r < 0 || r >= by {
				t.Fatalf("Floor(%d, %d) = %d, %d", n, by, q, r)
			}
			if floorBig(n, 1, by).Cmp(bigOf(q)) != 0 {
				t.Fatalf("Floor(%d, %d) has the quotient %d", n, by, q)
			}
		}
	}
}

func TestP1_9SatWithinBoundsIsTheSum(t *testing.T) {
	for _, l := range [][]int{{edge, -1, 1}, {edge, -2 * edge, 2 * edge, -edge}, {-edge, edge, edge}, {3, -4, 5, -6}} {
		sum := 0
		for i, term := range l {
			sum += term
			if got := Sat(l[:i+1]...); got != sum {
				t.Fatalf("Sat(%d) = %d, not %d", l[:i+1], got, sum)
			}
		}
	}
	var kept []int
	sum := 0
	for _, n := range stream(2000) {
		if term := n % edge; sum+term >= -edge && sum+term <= edge {
			sum += term
			kept = append(kept, term)
		}
	}
	if got := Sat(kept...); got != sum {
		t.Fatalf("Sat of %d terms is %d, not %d", len(kept), got, sum)
	}
}

func TestExamples(t *testing.T) {
	if Scale(7, 1, 2) != 4 || Scale(-7, 1, 2) != -3 {
		t.Error("Scale:", Scale(7, 1, 2), Scale(-7, 1, 2))
	}
	if q, r := Floor(-7, 2); q != -4 || r != 1 {
		t.Error("Floor:", q, r)
	}
	if l := Share(10, []int{1, 1, 1}); !slices.Equal(l, []int{3, 3, 4}) {
		t.Error("Share of 10:", l)
	}
	if l := Share(-1, []int{1, 1}); !slices.Equal(l, []int{-1, 0}) {
		t.Error("Share of -1:", l)
	}
	if l := Share(5, []int{0, -3}); len(l) != 0 {
		t.Error("Share without weights:", l)
	}
	if l := Split(7, 2); !slices.Equal(l, []int{3, 4}) {
		t.Error("Split:", l)
	}
	if n := Sat(1<<40, 5, -5); n != 1<<40-5 {
		t.Error("Sat:", n)
	}
}
