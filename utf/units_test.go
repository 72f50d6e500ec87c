package utf

import (
	"slices"
	"testing"

	"typecase/api"
)

// edges are the units at which the kinds of units end, and some between them.
var edges = []uint16{0, 'a', 0x7F, 0x80, 0xD7FF, 0xD800, 0xD801, 0xD83D, 0xDBFE, 0xDBFF, 0xDC00, 0xDC01, 0xDE00, 0xDFFE, 0xDFFF, 0xE000, 0xFFFD, 0xFFFF}

// pairs is the chapter's definition of the runes of two units: each such rune by its units.
func pairs() map[[2]uint16]rune {
	l := map[[2]uint16]rune{}
	r := rune(0x10000)
	for high := 0xD800; high <= 0xDBFF; high++ {
		for low := 0xDC00; low <= 0xDFFF; low++ {
			l[[2]uint16{uint16(high), uint16(low)}] = r
			r++
		}
	}
	return l
}

// fromUnits is FromUnits as the chapter defines it.
func fromUnits(u []uint16, l map[[2]uint16]rune) ([]rune, int, api.Errno) {
	var t []rune
	for at := 0; at < len(u); at++ {
		if u[at] < 0xD800 || u[at] > 0xDFFF {
			t = append(t, rune(u[at]))
			continue
		}
		if at+1 < len(u) {
			if r, ok := l[[2]uint16{u[at], u[at+1]}]; ok {
				t = append(t, r)
				at++
				continue
			}
		}
		if u[at] < 0xDC00 && at == len(u)-1 {
			return nil, at, api.ErrEnd
		}
		return nil, at, api.ErrForm
	}
	return t, len(u), api.OK
}

// unitTexts calls visit with all single units, with the texts of up to four edges, and with some longer ones.
func unitTexts(visit func([]uint16)) {
	visit(nil)
	for unit := range 1 << 16 {
		visit([]uint16{uint16(unit)})
	}
	for _, a := range edges {
		for _, b := range edges {
			visit([]uint16{a, b})
			for _, c := range edges {
				visit([]uint16{a, b, c})
				for _, d := range edges {
					visit([]uint16{a, b, c, d})
				}
			}
		}
	}
	state := uint64(3)
	for range 2000 {
		u := make([]uint16, 30)
		for i := range u {
			state = state*6364136223846793005 + 1442695040888963407
			u[i] = uint16(state >> 40)
		}
		visit(u)
	}
}

func TestP2_3Units(t *testing.T) {
	var want []uint16
	back := map[rune][2]uint16{}
	for units, r := range pairs() {
		back[r] = units
	}
	every := everyRune()
	for _, r := range every {
		one := []uint16{uint16(r)}
		if units, ok := back[r]; ok {
			one = units[:]
		}
		if u, e := Units([]rune{r}); !slices.Equal(u, one) || e != api.OK {
			t.Fatalf("%x: %x, %d", r, u, int(e))
		}
		want = append(want, one...)
	}
	if u, e := Units(every); !slices.Equal(u, want) || e != api.OK {
		t.Error("the units of all runes differ", e)
	}
	for _, text := range [][]rune{nil, {}} {
		if u, e := Units(text); len(u) != 0 || e != api.OK {
			t.Errorf("of no runes: %x, %d", u, int(e))
		}
	}
}

func TestP2_3UnitsInvalid(t *testing.T) {
	for _, r := range bad {
		for _, text := range [][]rune{{r}, {r, 'a', 'b'}, {'a', r, 'b'}, {'a', 'b', r}, {0xD83D, 0xDE00}} {
			if u, e := Units(text); len(u) != 0 || e != api.ErrText {
				t.Errorf("%x: %x, %d", text, u, int(e))
			}
		}
	}
}

func TestP2_3FromUnitsByTheDefinition(t *testing.T) {
	l := pairs()
	unitTexts(func(u []uint16) {
		text, n, e := FromUnits(u)
		if wantText, wantN, wantE := fromUnits(u, l); !slices.Equal(text, wantText) || n != wantN || e != wantE {
			t.Fatalf("%x: %x, %d, %d; not %x, %d, %d", u, text, n, int(e), wantText, wantN, int(wantE))
		}
	})
}

func TestP2_3Surrogates(t *testing.T) {
	for _, test := range []struct {
		u  []uint16
		at int
		e  api.Errno
	}{
		{[]uint16{0xD800}, 0, api.ErrEnd},
		{[]uint16{0xDBFF}, 0, api.ErrEnd},
		{[]uint16{'a', 0xD83D}, 1, api.ErrEnd},
		{[]uint16{0xD83D, 0xDE00, 0xD83D}, 2, api.ErrEnd},
		{[]uint16{0xDC00}, 0, api.ErrForm},
		{[]uint16{0xDFFF}, 0, api.ErrForm},
		{[]uint16{'a', 0xDE00}, 1, api.ErrForm},
		{[]uint16{0xDE00, 'a'}, 0, api.ErrForm},
		{[]uint16{0xD83D, 'a'}, 0, api.ErrForm},
		{[]uint16{0xD83D, 0xD83D}, 0, api.ErrForm},
		{[]uint16{0xD83D, 0xD83D, 0xDE00}, 0, api.ErrForm},
		{[]uint16{0xD83D, 0xDE00, 0xDE00}, 2, api.ErrForm},
		{[]uint16{0xD83D, 0xE000}, 0, api.ErrForm},
		{[]uint16{0xD83D, 0xDBFF}, 0, api.ErrForm},
		{[]uint16{0xDE00, 0xD83D}, 0, api.ErrForm},
	} {
		if text, at, e := FromUnits(test.u); len(text) != 0 || at != test.at || e != test.e {
			t.Errorf("%x: %x, %d, %d", test.u, text, at, int(e))
		}
	}
	if text, n, e := FromUnits(nil); len(text) != 0 || n != 0 || e != api.OK {
		t.Errorf("of no units: %x, %d, %d", text, n, int(e))
	}
}

func TestP2_5FromUnitsInvertsUnits(t *testing.T) {
	for _, text := range [][]rune{nil, good, everyRune()} {
		u, _ := Units(text)
		if back, n, e := FromUnits(u); !slices.Equal(back, text) || n != len(u) || e != api.OK {
			t.Errorf("%d runes: %d, %d, %d", len(text), len(back), n, int(e))
		}
	}
}

func TestP2_5UnitsInvertsFromUnits(t *testing.T) {
	taken := 0
	unitTexts(func(u []uint16) {
		text, n, e := FromUnits(u)
		if e != api.OK {
			return
		}
		taken++
		if back, e := Units(text); !slices.Equal(back, u) || e != api.OK || n != len(u) {
			t.Fatalf("%x: %x, %d", u, back, int(e))
		}
	})
	if taken < 1000 {
		t.Error("hardly any units are taken:", taken)
	}
}

func TestR5UnitsAreApart(t *testing.T) {
	text := slices.Clone(good)
	u, _ := Units(text)
	kept := slices.Clone(u)
	back, _, _ := FromUnits(u)
	if !slices.Equal(text, good) || !slices.Equal(u, kept) {
		t.Error("an argument is changed")
	}
	clear(u)
	if !slices.Equal(back, good) {
		t.Error("a result shares memory with an argument")
	}
	if again, _ := Units(text); !slices.Equal(again, kept) {
		t.Error("a later call sees what was done to an earlier result")
	}
}

func TestExamplesOfUnits(t *testing.T) {
	if u, e := Units([]rune{0x1F600}); !slices.Equal(u, []uint16{0xD83D, 0xDE00}) || e != api.OK {
		t.Errorf("%x, %d", u, int(e))
	}
	if _, at, e := FromUnits([]uint16{0xDE00}); at != 0 || e != api.ErrForm {
		t.Error(at, e)
	}
}
