package utf

import (
	"bytes"
	"math"
	"slices"
	"testing"

	"typecase/api"
)

// good and bad are the runes at the ends of what is valid and of the forms' lengths, and some between them.
var (
	good = []rune{0, 1, 'a', 0x7E, 0x7F, 0x80, 0x81, 0xE4, 0x7FE, 0x7FF, 0x800, 0x801, 0xFFF, 0x1000, 0x20AC, 0xCFFF, 0xD000, 0xD7FE, 0xD7FF,
		0xE000, 0xE001, 0xFFFD, 0xFFFE, 0xFFFF, 0x10000, 0x10001, 0x103FF, 0x10400, 0x1F600, 0x3FFFF, 0x40000, 0xFFFFF, 0x100000, 0x10FFFE, 0x10FFFF}
	bad = []rune{math.MinInt32, -0x110000, -0x10000, -0xD800, -2, -1, 0xD800, 0xD801, 0xDABC, 0xDBFF, 0xDC00, 0xDEAD, 0xDFFE, 0xDFFF, 0x110000, 0x110001, 0x200000, math.MaxInt32}
)

// everyRune returns all valid runes.
func everyRune() []rune {
	var l []rune
	for r := rune(0); r <= 0x10FFFF; r++ {
		if r < 0xD800 || r > 0xDFFF {
			l = append(l, r)
		}
	}
	return l
}

// write returns the form of a valid rune as RFC 3629 lays out its bits.
func write(r rune) []byte {
	tail := func(shift int) byte { return byte(0x80 | r>>shift&0x3F) }
	switch {
	case r < 0x80:
		return []byte{byte(r)}
	case r < 0x800:
		return []byte{byte(0xC0 | r>>6), tail(0)}
	case r < 0x10000:
		return []byte{byte(0xE0 | r>>12), tail(6), tail(0)}
	}
	return []byte{byte(0xF0 | r>>18), tail(12), tail(6), tail(0)}
}

// writeAll returns the forms of valid runes, one after the other.
func writeAll(t []rune) []byte {
	var b []byte
	for _, r := range t {
		b = append(b, write(r)...)
	}
	return b
}

// rules is the chapter's definition of the forms as two lists: all forms, and all truncated forms.
type rules struct {
	forms map[string]rune
	cuts  map[string]bool
}

func makeRules() rules {
	l := rules{map[string]rune{}, map[string]bool{}}
	for _, r := range everyRune() {
		form := string(write(r))
		l.forms[form] = r
		for n := 1; n < len(form); n++ {
			l.cuts[form[:n]] = true
		}
	}
	return l
}

// formAt returns the rune whose form starts at the position and its length, or the length 0.
func (l rules) formAt(b []byte, at int) (rune, int) {
	for n := 1; n <= 4 && at+n <= len(b); n++ {
		if r, ok := l.forms[string(b[at:at+n])]; ok {
			return r, n
		}
	}
	return 0, 0
}

// invalidAt returns the length of the invalid range at the position.
func (l rules) invalidAt(b []byte, at int) int {
	for n := 3; n > 1; n-- {
		if at+n <= len(b) && l.cuts[string(b[at:at+n])] {
			return n
		}
	}
	return 1
}

func (l rules) decode(b []byte) ([]rune, int, api.Errno) {
	var t []rune
	for at := 0; at < len(b); {
		r, n := l.formAt(b, at)
		if n == 0 && l.cuts[string(b[at:])] {
			return nil, at, api.ErrEnd
		}
		if n == 0 {
			return nil, at, api.ErrForm
		}
		t = append(t, r)
		at += n
	}
	return t, len(b), api.OK
}

func (l rules) lossy(b []byte) []rune {
	var t []rune
	for at := 0; at < len(b); {
		r, n := l.formAt(b, at)
		if n == 0 {
			r, n = 0xFFFD, l.invalidAt(b, at)
		}
		t = append(t, r)
		at += n
	}
	return t
}

// leads holds a byte of each kind, and the bytes at which the kinds end.
var leads = []byte{0x00, 0x41, 0x7F, 0x80, 0x8F, 0x90, 0x9F, 0xA0, 0xBF, 0xC0, 0xC1, 0xC2, 0xDF, 0xE0, 0xE1, 0xEC, 0xED, 0xEE, 0xEF, 0xF0, 0xF1, 0xF3, 0xF4, 0xF5, 0xFF}

// strips calls visit with all byte strings of the length whose bytes are among the given ones.
func strips(from []byte, length int, visit func([]byte)) {
	b := make([]byte, length)
	var fill func(at int)
	fill = func(at int) {
		if at == length {
			visit(b)
			return
		}
		for _, value := range from {
			b[at] = value
			fill(at + 1)
		}
	}
	fill(0)
}

// byteTexts calls visit with all byte strings of up to two bytes, with those of leads up to four, and with some longer ones.
func byteTexts(visit func([]byte)) {
	all := make([]byte, 256)
	for i := range all {
		all[i] = byte(i)
	}
	visit(nil)
	strips(all, 1, visit)
	strips(all, 2, visit)
	strips(leads, 3, visit)
	strips(leads, 4, visit)
	strips([]byte{0x41, 0x80, 0xBF, 0xC3, 0xE2, 0xF0}, 6, visit)
	state := uint64(7)
	for range 2000 {
		b := make([]byte, 40)
		for i := range b {
			state = state*6364136223846793005 + 1442695040888963407
			b[i] = leads[state>>33%uint64(len(leads))]
		}
		visit(b)
	}
}

func TestP2_1Right(t *testing.T) {
	if !Right(nil) || !Right([]rune{}) || !Right(good) {
		t.Error("a valid text is refused")
	}
	for _, r := range good {
		if !Right([]rune{r}) {
			t.Errorf("%x is refused", r)
		}
	}
	for _, r := range bad {
		for _, text := range [][]rune{{r}, {r, 'a', 'b'}, {'a', r, 'b'}, {'a', 'b', r}, {r, r}} {
			if Right(text) {
				t.Errorf("%x is taken", text)
			}
		}
	}
}

func TestP2_1RightOfEveryRune(t *testing.T) {
	for r := rune(-0x1000); r < 0x120000; r++ {
		want := r >= 0 && r < 0xD800 || r > 0xDFFF && r <= 0x10FFFF
		if Right([]rune{r}) != want {
			t.Fatalf("%x: not %v", r, want)
		}
	}
}

func TestP2_1Encode(t *testing.T) {
	for _, r := range everyRune() {
		if b, e := Encode([]rune{r}); e != api.OK || !bytes.Equal(b, write(r)) {
			t.Fatalf("%x: % x, %d", r, b, int(e))
		}
	}
	if b, e := Encode(good); e != api.OK || !bytes.Equal(b, writeAll(good)) {
		t.Errorf("% x, %d", b, int(e))
	}
	for _, text := range [][]rune{nil, {}} {
		if b, e := Encode(text); e != api.OK || len(b) != 0 {
			t.Errorf("of no runes: % x, %d", b, int(e))
		}
	}
}

func TestP2_1EncodeInvalid(t *testing.T) {
	for _, r := range bad {
		for _, text := range [][]rune{{r}, {r, 'a', 'b'}, {'a', r, 'b'}, {'a', 'b', r}} {
			if b, e := Encode(text); e != api.ErrText || len(b) != 0 {
				t.Errorf("%x: % x, %d", text, b, int(e))
			}
		}
	}
}

func TestP2_2DecodeByTheDefinition(t *testing.T) {
	l := makeRules()
	byteTexts(func(b []byte) {
		text, n, e := Decode(b)
		if wantText, wantN, wantE := l.decode(b); !slices.Equal(text, wantText) || n != wantN || e != wantE {
			t.Fatalf("% x: %x, %d, %d; not %x, %d, %d", b, text, n, int(e), wantText, wantN, int(wantE))
		}
	})
}

func TestP2_2LossyByTheDefinition(t *testing.T) {
	l := makeRules()
	byteTexts(func(b []byte) {
		if text, want := Lossy(b), l.lossy(b); !slices.Equal(text, want) {
			t.Fatalf("% x: %x, not %x", b, text, want)
		}
	})
}

func TestP2_2Faults(t *testing.T) {
	for _, test := range []struct {
		b     string
		at    int
		e     api.Errno
		lossy []rune
	}{
		{"a\xC0\x80", 1, api.ErrForm, []rune{'a', 0xFFFD, 0xFFFD}},
		{"\xC1\xBF", 0, api.ErrForm, []rune{0xFFFD, 0xFFFD}},
		{"\xE0\x80\x80", 0, api.ErrForm, []rune{0xFFFD, 0xFFFD, 0xFFFD}},
		{"\xE0\x9F\xBF", 0, api.ErrForm, []rune{0xFFFD, 0xFFFD, 0xFFFD}},
		{"\xF0\x80\x80\x80", 0, api.ErrForm, []rune{0xFFFD, 0xFFFD, 0xFFFD, 0xFFFD}},
		{"\xF0\x8F\xBF\xBF", 0, api.ErrForm, []rune{0xFFFD, 0xFFFD, 0xFFFD, 0xFFFD}},
		{"\xED\xA0\x80", 0, api.ErrForm, []rune{0xFFFD, 0xFFFD, 0xFFFD}},
		{"\xED\xBF\xBF", 0, api.ErrForm, []rune{0xFFFD, 0xFFFD, 0xFFFD}},
		{"\xED\x9F", 0, api.ErrEnd, []rune{0xFFFD}},
		{"\xED\xA0", 0, api.ErrForm, []rune{0xFFFD, 0xFFFD}},
		{"\xF4\x90\x80\x80", 0, api.ErrForm, []rune{0xFFFD, 0xFFFD, 0xFFFD, 0xFFFD}},
		{"\xF4\x8F\xBF", 0, api.ErrEnd, []rune{0xFFFD}},
		{"\xF4\x90", 0, api.ErrForm, []rune{0xFFFD, 0xFFFD}},
		{"\xF5", 0, api.ErrForm, []rune{0xFFFD}},
		{"\xFF", 0, api.ErrForm, []rune{0xFFFD}},
		{"\x80", 0, api.ErrForm, []rune{0xFFFD}},
		{"a\xC3", 1, api.ErrEnd, []rune{'a', 0xFFFD}},
		{"a\xE2", 1, api.ErrEnd, []rune{'a', 0xFFFD}},
		{"a\xE2\x82", 1, api.ErrEnd, []rune{'a', 0xFFFD}},
		{"a\xF0", 1, api.ErrEnd, []rune{'a', 0xFFFD}},
		{"a\xF0\x9F", 1, api.ErrEnd, []rune{'a', 0xFFFD}},
		{"a\xF0\x9F\x98", 1, api.ErrEnd, []rune{'a', 0xFFFD}},
		{"a\xC3b", 1, api.ErrForm, []rune{'a', 0xFFFD, 'b'}},
		{"a\xE2\x82b", 1, api.ErrForm, []rune{'a', 0xFFFD, 'b'}},
		{"a\xF0\x9F\x98b", 1, api.ErrForm, []rune{'a', 0xFFFD, 'b'}},
		{"\xE2\x82\xE2\x82\xAC", 0, api.ErrForm, []rune{0xFFFD, 0x20AC}},
		{"\xE2\x82\xE2\x82", 0, api.ErrForm, []rune{0xFFFD, 0xFFFD}},
		{"\xF0\x9F\xC3\xA4", 0, api.ErrForm, []rune{0xFFFD, 0xE4}},
		{"\xC3\xA4\xA4", 2, api.ErrForm, []rune{0xE4, 0xFFFD}},
		{"\xEF\xBF\xBD\xEF\xBF", 3, api.ErrEnd, []rune{0xFFFD, 0xFFFD}},
	} {
		if text, at, e := Decode([]byte(test.b)); len(text) != 0 || at != test.at || e != test.e {
			t.Errorf("Decode %q: %x, %d, %d", test.b, text, at, int(e))
		}
		if text := Lossy([]byte(test.b)); !slices.Equal(text, test.lossy) {
			t.Errorf("Lossy %q: %x", test.b, text)
		}
	}
}

func TestP2_2EmptyAndReplacement(t *testing.T) {
	for _, b := range [][]byte{nil, {}} {
		if text, n, e := Decode(b); len(text) != 0 || n != 0 || e != api.OK {
			t.Errorf("Decode: %x, %d, %d", text, n, int(e))
		}
		if text := Lossy(b); len(text) != 0 {
			t.Errorf("Lossy: %x", text)
		}
	}
	if text, n, e := Decode([]byte("\xEF\xBF\xBD")); !slices.Equal(text, []rune{0xFFFD}) || n != 3 || e != api.OK {
		t.Errorf("the form of 0xFFFD: %x, %d, %d", text, n, int(e))
	}
}

func TestP2_4Byte(t *testing.T) {
	for _, text := range [][]rune{nil, {0}, {0xE4, 'a'}, {0x10FFFF}, good} {
		for at := range len(text) + 1 {
			if got, want := Byte(text, at), len(writeAll(text[:at])); got != want {
				t.Errorf("%x at %d: %d, not %d", text, at, got, want)
			}
		}
		for _, at := range []int{math.MinInt, -2, -1, len(text) + 1, len(text) + 2, 1 << 32, math.MaxInt} {
			if got := Byte(text, at); got != -1 {
				t.Errorf("%x at %d: %d", text, at, got)
			}
		}
	}
}

func TestP2_4Place(t *testing.T) {
	for _, text := range [][]rune{nil, {0}, {0xE4, 'a'}, {0x10FFFF}, good} {
		var owners []int
		for i, r := range text {
			for range write(r) {
				owners = append(owners, i)
			}
		}
		owners = append(owners, len(text))
		for at, want := range owners {
			if got := Place(text, at); got != want {
				t.Errorf("%x, byte %d: %d, not %d", text, at, got, want)
			}
		}
		for _, at := range []int{math.MinInt, -2, -1, len(owners), len(owners) + 1, 1 << 32, math.MaxInt} {
			if got := Place(text, at); got != -1 {
				t.Errorf("%x, byte %d: %d", text, at, got)
			}
		}
	}
}

func TestP2_4Invalid(t *testing.T) {
	for _, r := range bad {
		for _, text := range [][]rune{{r}, {r, 'a', 'b'}, {'a', r, 'b'}, {'a', 'b', r}} {
			for at := -1; at < 12; at++ {
				if got := Byte(text, at); got != -1 {
					t.Errorf("Byte of %x at %d: %d", text, at, got)
				}
				if got := Place(text, at); got != -1 {
					t.Errorf("Place in %x of byte %d: %d", text, at, got)
				}
			}
		}
	}
}

func TestP2_5DecodeInvertsEncode(t *testing.T) {
	for _, text := range [][]rune{nil, good, everyRune()} {
		b, _ := Encode(text)
		if back, n, e := Decode(b); !slices.Equal(back, text) || n != len(b) || e != api.OK {
			t.Errorf("%d runes: %d, %d, %d", len(text), len(back), n, int(e))
		}
	}
}

func TestP2_5EncodeInvertsDecode(t *testing.T) {
	taken := 0
	byteTexts(func(b []byte) {
		text, n, e := Decode(b)
		if e != api.OK {
			return
		}
		taken++
		if back, e := Encode(text); !bytes.Equal(back, b) || e != api.OK || n != len(b) {
			t.Fatalf("% x: % x, %d", b, back, int(e))
		}
	})
	if taken < 1000 {
		t.Error("hardly any bytes are taken:", taken)
	}
}

func TestP2_6Lossy(t *testing.T) {
	byteTexts(func(b []byte) {
		text := Lossy(b)
		if !Right(text) || len(text) > len(b) {
			t.Fatalf("% x: %x", b, text)
		}
		if right, _, e := Decode(b); e == api.OK && !slices.Equal(text, right) {
			t.Fatalf("% x: %x, not %x", b, text, right)
		}
	})
	if every := everyRune(); !slices.Equal(Lossy(writeAll(every)), every) {
		t.Error("not the runes that Decode returns")
	}
}

func TestP2_7Places(t *testing.T) {
	last := -1
	for at := range len(good) + 1 {
		now := Byte(good, at)
		if now <= last {
			t.Errorf("at %d: %d after %d", at, now, last)
		}
		if back := Place(good, now); back != at {
			t.Errorf("at %d: %d", at, back)
		}
		last = now
	}
}

func TestR5BytesAreApart(t *testing.T) {
	text := slices.Clone(good)
	b, _ := Encode(text)
	Right(text)
	Byte(text, 3)
	Place(text, 3)
	if !slices.Equal(text, good) {
		t.Error("the text is changed")
	}
	kept := slices.Clone(b)
	faulty := []byte("a\xE2\x82b")
	Decode(b)
	Lossy(b)
	Decode(faulty)
	Lossy(faulty)
	if !bytes.Equal(b, kept) || string(faulty) != "a\xE2\x82b" {
		t.Error("the bytes are changed")
	}
	first, _, _ := Decode(b)
	second := Lossy(b)
	clear(b)
	clear(first)
	if !slices.Equal(second, good) {
		t.Error("results share memory")
	}
	again, _ := Encode(good)
	if !bytes.Equal(again, kept) {
		t.Error("a later call sees what was done to an earlier result")
	}
}

func TestExamplesOfBytes(t *testing.T) {
	if b, e := Encode([]rune{0xE4, 0x20AC}); !bytes.Equal(b, []byte{0xC3, 0xA4, 0xE2, 0x82, 0xAC}) || e != api.OK {
		t.Errorf("% x, %d", b, int(e))
	}
	if _, at, e := Decode([]byte{0x61, 0xC0, 0x80}); at != 1 || e != api.ErrForm {
		t.Error(at, e)
	}
	if _, at, e := Decode([]byte{0x61, 0xE2, 0x82}); at != 1 || e != api.ErrEnd {
		t.Error(at, e)
	}
	if text := Lossy([]byte{0x61, 0xE2, 0x82, 0x62}); !slices.Equal(text, []rune{'a', 0xFFFD, 'b'}) {
		t.Errorf("%x", text)
	}
	if text := Lossy([]byte{0xED, 0xA0, 0x80}); !slices.Equal(text, []rune{0xFFFD, 0xFFFD, 0xFFFD}) {
		t.Errorf("%x", text)
	}
	text := []rune{0xE4, 'a'}
	if Byte(text, 1) != 2 || Place(text, 1) != 0 || Place(text, 2) != 1 || Place(text, 3) != 2 {
		t.Error("places")
	}
}
