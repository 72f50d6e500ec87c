// Package nums is layer 1: whole numbers, scaled and shared out (shared/doc/01-nums.md).
package nums

import (
	"math"
	"math/bits"
)

// limit bounds what Scale and Sat answer, either way.
const limit = 1 << 40

// maxParts is the greatest number of parts that Split makes.
const maxParts = 65536

// Clamp returns the number from lo to hi that is nearest to n; lo if hi is below lo.
func Clamp(n, lo, hi int) int {
	if hi < lo || n <= lo {
		return lo
	}
	if n > hi {
		return hi
	}
	return n
}

// Scale returns n * num / den, rounded with halves up, from -2^40 to 2^40; 0 if den is below 1.
func Scale(n, num, den int) int {
	if den < 1 {
		return 0
	}
	q, r, fits := quotient(n, num, den)
	if !fits || q > limit {
		// Rounding may still add 1 to this, which Clamp takes away again.
		q = limit
	}
	rest := uint64(den) - r
	if (n < 0) != (num < 0) {
		// Below zero, up is towards zero: an exact half leaves q alone.
		if r > rest {
			q++
		}
		return Clamp(-int(q), -limit, limit)
	}
	if r >= rest {
		q++
	}
	return Clamp(int(q), -limit, limit)
}

// quotient divides |n * num| by den, which is above 0. It does not fit where the quotient needs more than 64 bits.
func quotient(n, num, den int) (q, r uint64, fits bool) {
	high, low := bits.Mul64(size(n), size(num))
	d := uint64(den)
	if high >= d {
		return 0, 0, false
	}
	q, r = bits.Div64(high, low, d)
	return q, r, true
}

// size returns |n|, unsigned because that of the least int is no int.
func size(n int) uint64 {
	if n < 0 {
		return -uint64(n)
	}
	return uint64(n)
}

// Floor returns the floored quotient and the remainder, which is not negative; 0 and 0 if by is below 1.
func Floor(n, by int) (int, int) {
	if by < 1 {
		return 0, 0
	}
	q, r := n/by, n%by
	if r < 0 {
		return q - 1, r + by
	}
	return q, r
}

// Share divides total into one part per weight; nothing if no weight is positive.
func Share(total int, w []int) []int {
	whole := 0
	for _, weight := range w {
		whole = addWeight(whole, weight)
	}
	if whole == 0 {
		return nil
	}
	parts := make([]int, len(w))
	sum, before := 0, 0
	for i, weight := range w {
		sum = addWeight(sum, weight)
		after := portion(total, sum, whole)
		parts[i] = after - before
		before = after
	}
	return parts
}

// addWeight adds a weight to a sum of weights. R8 rules out sums that are no int; holding them at the
// greatest int keeps each partial sum within the whole one, so that portion can divide whatever comes.
func addWeight(sum, weight int) int {
	if weight <= 0 {
		return sum
	}
	if weight > math.MaxInt-sum {
		return math.MaxInt
	}
	return sum + weight
}

// portion returns the floor of total * sum / whole, for a sum from 0 to whole: it lies between 0 and total.
func portion(total, sum, whole int) int {
	q, r, _ := quotient(total, sum, whole)
	if total >= 0 {
		return int(q)
	}
	if r > 0 {
		q++
	}
	return -int(q)
}

// Split divides total into parts as equal as Share makes them; nothing if parts is not from 1 to 65536.
func Split(total, parts int) []int {
	if parts < 1 || parts > maxParts {
		return nil
	}
	w := make([]int, parts)
	for i := range w {
		w[i] = 1
	}
	return Share(total, w)
}

// Sat adds the terms in order, and holds the sum from -2^40 to 2^40 after each.
func Sat(l ...int) int {
	sum := 0
	for _, term := range l {
		// A term of twice the limit already moves any sum to its end, so a greater one need not be added,
		// which could overflow.
		sum = Clamp(sum+Clamp(term, -2*limit, 2*limit), -limit, limit)
	}
	return sum
}
