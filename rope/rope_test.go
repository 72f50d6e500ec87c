package rope

import (
	"math"
	"slices"
	"testing"

	"typecase/api"
)

const (
	low  = math.MinInt
	high = math.MaxInt
)

// sizes are lengths of texts of one piece and of many, at and around the greatest piece and its multiples.
func sizes() []int {
	return []int{0, 1, 2, 3, 62, 63, 64, 65, 66, 127, 128, 129, 130, 191, 192, 193, 256, 257}
}

// text returns n runes from first on, no two of which are the same.
func text(n int, first rune) []rune {
	t := make([]rune, n)
	for i := range t {
		t[i] = first + rune(i)
	}
	return t
}

// rope returns the rope of t.
func rope(t *testing.T, runes []rune) *Rope {
	t.Helper()
	x, e := New(runes)
	if e != api.OK || x == nil {
		t.Fatalf("New of %d runes: %v, %v", len(runes), x, e)
	}
	return x
}

// stream returns a function that returns numbers from 0 up to n, the same ones each time.
func stream() func(n int) int {
	state := uint64(1)
	return func(n int) int {
		state = state*6364136223846793005 + 1442695040888963407
		return int(state >> 33 % uint64(n))
	}
}

// holds reports a rope that doesn't hold just the wanted runes, in a tree as it has to be.
func holds(t *testing.T, x *Rope, want []rune, call string, args ...any) {
	t.Helper()
	if x == nil {
		t.Fatalf("%s%v: no rope", call, args)
	}
	if got := x.Text(); !slices.Equal(got, want) || x.Len() != len(want) {
		t.Fatalf("%s%v = %v, %d runes, not %v", call, args, got, x.Len(), want)
	}
	sound(t, x)
}

// fails reports a call that doesn't answer the error and nothing else.
func fails(t *testing.T, x *Rope, e, want api.Errno, call string, args ...any) {
	t.Helper()
	if x != nil || e != want {
		t.Errorf("%s%v: %v, %v, not %v", call, args, x, e, want)
	}
}

// inserted is the text with more before index at.
func inserted(runes []rune, at int, more []rune) []rune {
	return slices.Concat(runes[:at], more, runes[at:])
}

// deleted is the text without the runes in [from, to).
func deleted(runes []rune, from, to int) []rune { return slices.Concat(runes[:from], runes[to:]) }

// strange are runes that are code points and others.
func strange() []rune {
	return []rune{0, -1, math.MinInt32, math.MaxInt32, 0xD800, 0xDFFF, 0x10FFFF, 0x110000, 'a', -1, 0, 0xFFFD}
}

func TestP6_1New(t *testing.T) {
	for _, n := range slices.Concat(sizes(), []int{4095, 4096, 4097, 32768, api.MaxDoc - 1, api.MaxDoc}) {
		want := text(n, 1)
		holds(t, rope(t, want), want, "New", n)
	}
	holds(t, rope(t, []rune{}), nil, "New of an empty text")
	holds(t, rope(t, strange()), strange(), "New of runes of any value")
}

func TestP6_1NewTooMany(t *testing.T) {
	for _, n := range []int{api.MaxDoc + 1, api.MaxDoc + 2, 2 * api.MaxDoc} {
		x, e := New(make([]rune, n))
		fails(t, x, e, api.ErrMany, "New", n)
	}
}

func TestP6_1LenAndAt(t *testing.T) {
	for _, n := range sizes() {
		want := text(n, 5)
		x := rope(t, want)
		if x.Len() != n {
			t.Errorf("Len of %d runes = %d", n, x.Len())
		}
		for i, r := range want {
			if got, ok := x.At(i); got != r || !ok {
				t.Fatalf("At(%d) of %d runes = %d, %t", i, n, got, ok)
			}
		}
		for _, i := range []int{low, low + 1, -65, -2, -1, n, n + 1, n + 64, high - 1, high} {
			if got, ok := x.At(i); got != 0 || ok {
				t.Errorf("At(%d) of %d runes = %d, %t", i, n, got, ok)
			}
		}
	}
	for i, r := range strange() {
		if got, ok := rope(t, strange()).At(i); got != r || !ok {
			t.Errorf("At(%d) = %d, %t, not %d", i, got, ok, r)
		}
	}
}

// sliced is the chapter's definition of Slice, rune by rune.
func sliced(runes []rune, from, to int) []rune {
	var part []rune
	for i, r := range runes {
		if i >= from && i < to {
			part = append(part, r)
		}
	}
	return part
}

func TestP6_1Slice(t *testing.T) {
	for _, n := range sizes() {
		want := text(n, 5)
		x := rope(t, want)
		edges := []int{low, low + 1, -65, -1, 0, 1, 2, 31, 32, 33, 63, 64, 65, 96, 97, 127, 128, 129, n - 1, n, n + 1, n + 64, high - 1, high}
		for _, from := range edges {
			for _, to := range edges {
				if got := x.Slice(from, to); !slices.Equal(got, sliced(want, from, to)) {
					t.Fatalf("Slice(%d, %d) of %d runes = %v", from, to, n, got)
				}
			}
		}
	}
	want := text(135, 5)
	x := rope(t, want)
	for from := -2; from <= 137; from++ {
		for to := -2; to <= 137; to++ {
			if got := x.Slice(from, to); !slices.Equal(got, sliced(want, from, to)) {
				t.Fatalf("Slice(%d, %d) = %v", from, to, got)
			}
		}
	}
}

func TestP6_1Text(t *testing.T) {
	for _, n := range sizes() {
		want := text(n, -9)
		x := rope(t, want)
		if got := x.Text(); !slices.Equal(got, want) || !slices.Equal(x.Slice(0, n), want) {
			t.Errorf("Text of %d runes = %v", n, got)
		}
	}
}

func TestP6_2Insert(t *testing.T) {
	for _, n := range sizes() {
		before := text(n, 1)
		x := rope(t, before)
		for _, count := range []int{0, 1, 2, 31, 63, 64, 65, 130, 300} {
			more := text(count, -1000)
			for at := 0; at <= n; at++ {
				y, e := x.Insert(at, more)
				if e != api.OK {
					t.Fatalf("Insert(%d, %d runes) in %d: %v", at, count, n, e)
				}
				holds(t, y, inserted(before, at, more), "Insert", at, count, n)
			}
		}
		holds(t, x, before, "the rope after Insert", n)
	}
	x, e := rope(t, strange()).Insert(3, strange())
	if e != api.OK {
		t.Fatal(e)
	}
	holds(t, x, inserted(strange(), 3, strange()), "Insert of runes of any value")
}

func TestP6_2InsertOutOfRange(t *testing.T) {
	for _, n := range sizes() {
		x := rope(t, text(n, 1))
		for _, at := range []int{low, low + 1, -64, -1, n + 1, n + 64, high - 1, high} {
			for _, more := range [][]rune{nil, {7}, text(65, 1)} {
				y, e := x.Insert(at, more)
				fails(t, y, e, api.ErrRange, "Insert", at, len(more), n)
			}
			y, e := x.Insert(at, make([]rune, api.MaxDoc+1))
			fails(t, y, e, api.ErrRange, "Insert of too many, out of range", at, n)
		}
	}
}

func TestP6_2InsertFull(t *testing.T) {
	for _, n := range []int{0, 1, 64, 65, 1000, api.MaxDoc / 2, api.MaxDoc - 1, api.MaxDoc} {
		before := text(n, 1)
		x := rope(t, before)
		for _, at := range []int{0, n / 2, n} {
			for _, over := range []int{1, 2, 64, api.MaxDoc} {
				y, e := x.Insert(at, make([]rune, api.MaxDoc-n+over))
				fails(t, y, e, api.ErrFull, "Insert", at, over, n)
			}
			more := text(api.MaxDoc-n, -api.MaxDoc)
			y, e := x.Insert(at, more)
			if e != api.OK {
				t.Fatalf("Insert of all that has room behind %d runes: %v", n, e)
			}
			holds(t, y, inserted(before, at, more), "Insert up to the limit", at, n)
			for _, out := range []int{-1, api.MaxDoc + 1} {
				z, e := y.Insert(out, []rune{1})
				fails(t, z, e, api.ErrRange, "Insert into a full rope, out of range", out)
			}
		}
		holds(t, x, before, "the rope after Insert", n)
	}
}

func TestP6_2Delete(t *testing.T) {
	for _, n := range sizes() {
		before := text(n, 1)
		x := rope(t, before)
		step := 1
		if n > 130 {
			step = 7
		}
		for from := 0; from <= n; from++ {
			for to := n; to >= from; to -= step {
				y, e := x.Delete(from, to)
				if e != api.OK {
					t.Fatalf("Delete(%d, %d) of %d: %v", from, to, n, e)
				}
				holds(t, y, deleted(before, from, to), "Delete", from, to, n)
			}
			y, e := x.Delete(from, from)
			if e != api.OK {
				t.Fatalf("Delete(%d, %d) of %d: %v", from, from, n, e)
			}
			holds(t, y, before, "Delete of nothing", from, n)
		}
		holds(t, x, before, "the rope after Delete", n)
	}
}

func TestP6_2DeleteOutOfRange(t *testing.T) {
	for _, n := range sizes() {
		x := rope(t, text(n, 1))
		for _, c := range [][2]int{{-1, 0}, {-1, -1}, {-1, n}, {low, high}, {low, low}, {low, 0}, {-1, n + 1}, {0, n + 1}, {n, n + 1}, {n + 1, n + 1}, {n + 1, n}, {n + 1, 0}, {0, high}, {n, high}, {high, high}, {high, 0}, {high, low}, {0, -1}, {0, low}, {1, 0}, {n, n - 1}, {n / 2, n/2 - 1}} {
			y, e := x.Delete(c[0], c[1])
			fails(t, y, e, api.ErrRange, "Delete", c[0], c[1], n)
		}
	}
}

func TestP6_3Height(t *testing.T) {
	for _, n := range slices.Concat(sizes(), []int{4096, api.MaxDoc}) {
		x := rope(t, text(n, 1))
		if got := x.Height(); got != longest(x.tree) || got < leastHeight(n) || got > bound(n) {
			t.Errorf("Height of %d runes = %d", n, got)
		}
	}
	for _, c := range []struct{ n, want int }{{0, 0}, {1, 1}, {64, 1}, {65, 2}, {128, 2}, {129, 3}, {api.MaxDoc, 11}} {
		if got := rope(t, text(c.n, 1)).Height(); got != c.want {
			t.Errorf("Height of %d runes = %d, not %d", c.n, got, c.want)
		}
	}
	x := rope(t, text(300, 1))
	if y, e := x.Delete(0, 300); e != api.OK || y.Height() != 0 {
		t.Error("the height of a rope of which all was deleted")
	}
}

func TestP6_3Find(t *testing.T) {
	for _, n := range sizes() {
		// Each rune stands at two places, if there are two.
		want := slices.Concat(text(n/2, 10), text(n-n/2, 10))
		x := rope(t, want)
		for _, from := range []int{low, -1, 0, 1, n/2 - 1, n / 2, n/2 + 1, 31, 32, 33, 63, 64, 65, n - 1, n, n + 1, high} {
			for _, r := range []rune{9, 10, 11, 40, 41, 42, 72, 73, 74, 75, -10, 0, math.MinInt32, math.MaxInt32, rune(9 + n/2), rune(10 + n/2), rune(11 + n/2)} {
				found := api.None
				for i := n - 1; i >= 0 && i >= from; i-- {
					if want[i] == r {
						found = i
					}
				}
				if got := x.Find(r, from); got != found {
					t.Fatalf("Find(%d, %d) in %d runes = %d, not %d", r, from, n, got, found)
				}
			}
		}
	}
	for i, r := range []rune{0, -1, math.MinInt32, math.MaxInt32, 0xD800, 0xDFFF, 0x10FFFF, 0x110000} {
		if got := rope(t, strange()).Find(r, 0); got != i {
			t.Errorf("Find(%d) = %d, not %d", r, got, i)
		}
	}
}

func TestP6_3Count(t *testing.T) {
	for _, n := range sizes() {
		want := make([]rune, n)
		for i := range want {
			want[i] = rune(i*i%5) - 1
		}
		x := rope(t, want)
		for _, to := range []int{low, -1, 0, 1, 2, 31, 32, 33, 63, 64, 65, 97, 128, n - 1, n, n + 1, high} {
			for r := rune(-2); r < 5; r++ {
				count := 0
				for i := 0; i < n && i < to; i++ {
					if want[i] == r {
						count++
					}
				}
				if got := x.Count(r, to); got != count {
					t.Fatalf("Count(%d, %d) in %d runes = %d, not %d", r, to, n, got, count)
				}
			}
		}
	}
	for _, r := range []rune{math.MinInt32, math.MaxInt32, 0xD800, 0x110000} {
		if got := rope(t, strange()).Count(r, high); got != 1 {
			t.Errorf("Count(%d) = %d", r, got)
		}
	}
}

func TestP6_3All(t *testing.T) {
	for _, n := range sizes() {
		want := text(n, 3)
		all := rope(t, want).All()
		for range 2 {
			next := 0
			for i, r := range all {
				if i != next || r != want[i] {
					t.Fatalf("All of %d runes: %d, %d in the place of index %d", n, i, r, next)
				}
				next++
			}
			if next != n {
				t.Fatalf("All of %d runes ends at %d", n, next)
			}
		}
	}
}

func TestP6_3AllLeftEarly(t *testing.T) {
	for _, n := range sizes() {
		all := rope(t, text(n, 3)).All()
		for last := range n {
			next := 0
			all(func(i int, r rune) bool {
				if i != next || r != rune(3+i) || i > last {
					t.Fatalf("All of %d runes, left at %d: %d, %d", n, last, i, r)
				}
				next++
				return i < last
			})
			if next != last+1 {
				t.Fatalf("All of %d runes, left at %d: %d calls", n, last, next)
			}
		}
	}
}

func TestP6_3AllWithinItself(t *testing.T) {
	want := text(70, 3)
	all := rope(t, want).All()
	outer := 0
	for i, r := range all {
		inner := 0
		for j, c := range all {
			if j != inner || c != want[j] {
				t.Fatalf("within index %d: %d, %d in the place of index %d", i, j, c, inner)
			}
			inner++
			if j == i {
				break
			}
		}
		if i != outer || r != want[i] || inner != i+1 {
			t.Fatalf("%d, %d in the place of index %d, with %d within", i, r, outer, inner)
		}
		outer++
	}
	if outer != 70 {
		t.Error(outer)
	}
}

func TestP6_4Nil(t *testing.T) {
	var none *Rope
	edges := []int{low, -1, 0, 1, 64, high}
	for _, i := range edges {
		for _, more := range [][]rune{nil, {1}, make([]rune, api.MaxDoc+1)} {
			y, e := none.Insert(i, more)
			fails(t, y, e, api.ErrNil, "Insert", i, len(more))
		}
		for _, j := range edges {
			y, e := none.Delete(i, j)
			fails(t, y, e, api.ErrNil, "Delete", i, j)
			if part := none.Slice(i, j); len(part) != 0 {
				t.Errorf("Slice(%d, %d) = %v", i, j, part)
			}
		}
		if r, ok := none.At(i); r != 0 || ok {
			t.Errorf("At(%d) = %d, %t", i, r, ok)
		}
		if none.Find(0, i) != api.None || none.Count(0, i) != 0 {
			t.Errorf("Find or Count at %d", i)
		}
	}
	if none.Len() != 0 || none.Height() != 0 || len(none.Text()) != 0 {
		t.Error("Len, Height or Text")
	}
	all := none.All()
	if all == nil {
		t.Fatal("All: no iterator")
	}
	for i, r := range all {
		t.Errorf("All: %d, %d", i, r)
	}
}

// version is a rope with the text that it was made with.
type version struct {
	rope *Rope
	text []rune
}

// change returns what one of the rope's edits makes of a version: which one and with what is picked.
func change(t *testing.T, v version, pick func(n int) int) version {
	t.Helper()
	lengths := []int{0, 1, 1, 1, 2, 5, 30, 63, 64, 65, 100, 200}
	if n := len(v.text); pick(5) < 2 || n > 3000 {
		from := pick(n + 1)
		to := min(n, from+lengths[pick(len(lengths))]*(1+pick(5)))
		x, e := v.rope.Delete(from, to)
		if e != api.OK {
			t.Fatalf("Delete(%d, %d) of %d: %v", from, to, n, e)
		}
		return version{x, deleted(v.text, from, to)}
	}
	at := pick(len(v.text) + 1)
	more := text(lengths[pick(len(lengths))], rune(pick(1<<30)-1<<29))
	x, e := v.rope.Insert(at, more)
	if e != api.OK {
		t.Fatalf("Insert(%d, %d runes) in %d: %v", at, len(more), len(v.text), e)
	}
	return version{x, inserted(v.text, at, more)}
}

func TestP6_5EarlierRopesStay(t *testing.T) {
	pick := stream()
	versions := []version{{rope(t, nil), nil}, {rope(t, text(500, 1)), text(500, 1)}}
	for range 2000 {
		v := change(t, versions[len(versions)-1-pick(min(len(versions), 20))], pick)
		holds(t, v.rope, v.text, "an edit")
		versions = append(versions, v)
	}
	for i, v := range versions {
		holds(t, v.rope, v.text, "a rope after later edits", i)
	}
}

func TestP6_6DeletedAgain(t *testing.T) {
	for _, n := range sizes() {
		before := text(n, 1)
		x := rope(t, before)
		for _, count := range []int{0, 1, 2, 63, 64, 65, 200} {
			for at := 0; at <= n; at++ {
				y, e := x.Insert(at, text(count, 1))
				z, f := y.Delete(at, at+count)
				if e != api.OK || f != api.OK {
					t.Fatal(at, count, n, e, f)
				}
				holds(t, z, before, "Insert and Delete", at, count, n)
			}
		}
	}
	x := rope(t, text(100, 1))
	y, e := x.Insert(37, make([]rune, api.MaxDoc-100))
	z, f := y.Delete(37, api.MaxDoc-63)
	if e != api.OK || f != api.OK {
		t.Fatal(e, f)
	}
	holds(t, z, text(100, 1), "Insert up to the limit, and Delete")
}

func TestP6_6SliceOfAll(t *testing.T) {
	pick := stream()
	v := version{rope(t, nil), nil}
	for range 500 {
		v = change(t, v, pick)
		if !slices.Equal(v.rope.Slice(0, v.rope.Len()), v.rope.Text()) {
			t.Fatal(v.text)
		}
	}
}

// roomy returns n runes with room behind them, which a call might write to.
func roomy(n int) (part, memory []rune) {
	memory = text(n+70, 1)
	return memory[:n], memory
}

// spoil writes to all memory of the list, also to the room behind it.
func spoil(runes []rune) {
	for i := range runes[:cap(runes)] {
		runes[:cap(runes)][i] = -7
	}
}

func TestR5Arguments(t *testing.T) {
	for _, n := range sizes() {
		part, memory := roomy(n)
		x := rope(t, part)
		y, e := rope(t, text(70, 500)).Insert(40, part)
		if e != api.OK || !slices.Equal(memory, text(n+70, 1)) {
			t.Fatalf("an argument of %d runes: %v, %v", n, memory, e)
		}
		spoil(memory)
		holds(t, x, text(n, 1), "New, with the argument written to", n)
		holds(t, y, inserted(text(70, 500), 40, text(n, 1)), "Insert, with the argument written to", n)
	}
}

func TestR5Results(t *testing.T) {
	for _, n := range sizes() {
		want := text(n, 1)
		x := rope(t, want)
		y, _ := x.Insert(n/2, nil)
		lists := [][]rune{x.Text(), x.Text(), x.Slice(0, n), x.Slice(0, 64), x.Slice(0, 64), x.Slice(n/2, n), y.Text()}
		for i := range lists {
			spoil(lists[i])
			holds(t, x, want, "a rope with a result written to", n, i)
			holds(t, y, want, "a later rope with a result written to", n, i)
			for j := i + 1; j < len(lists); j++ {
				if slices.Contains(lists[j], -7) {
					t.Fatalf("results %d and %d of %d runes share memory", i, j, n)
				}
			}
		}
	}
}

// An edit that changes nothing answers a rope of its own nonetheless, which may be written over.
func TestR5NewRopes(t *testing.T) {
	for _, n := range []int{0, 1, 64, 200} {
		x := rope(t, text(n, 1))
		all := x.All()
		y, e := x.Insert(n/2, nil)
		z, f := x.Delete(n/2, n/2)
		if e != api.OK || f != api.OK || x == y || x == z || y == z {
			t.Fatalf("edits of nothing in %d runes: %p, %p, %p", n, x, y, z)
		}
		*y, *z = *rope(t, text(5, 9)), *rope(t, nil)
		holds(t, x, text(n, 1), "a rope with the next ones written over", n)
		*x = Rope{}
		count := 0
		for i, r := range all {
			if i != count || r != rune(1+i) {
				t.Fatal(n, i, r)
			}
			count++
		}
		if count != n {
			t.Errorf("All of %d runes, with the rope written over: %d", n, count)
		}
	}
}

func TestExamples(t *testing.T) {
	x := rope(t, []rune("abc"))
	y, e := x.Insert(1, []rune("xy"))
	z, f := y.Delete(0, 2)
	if e != api.OK || f != api.OK || string(y.Text()) != "axybc" || string(z.Text()) != "ybc" || string(x.Text()) != "abc" {
		t.Error(string(x.Text()), string(y.Text()), string(z.Text()), e, f)
	}
	if r, ok := x.At(3); x.Find('c', 0) != 2 || x.Count('b', 1) != 0 || r != 0 || ok {
		t.Error(x.Find('c', 0), x.Count('b', 1), r, ok)
	}
}
