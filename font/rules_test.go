package font

import (
	"bytes"
	"slices"
	"testing"

	"typecase/api"
)

// No function writes to its arguments, nor to what lies behind them in memory.
func TestR5Arguments(t *testing.T) {
	next := stream()
	for _, given := range append(fonts(next, 200), indexed(200, func(int) api.Font { return garbage(next) })...) {
		f, g := deep(given, 3), deep(given, 1)
		before, other := told(f, true), told(g, true)
		Check(f)
		Encode(f)
		Clone(f)
		Same(f, g)
		Same(g, f)
		if told(f, true) != before || told(g, true) != other {
			t.Fatalf("a font is written to: %v", f)
		}
		for _, b := range [][]byte{deep(encoding(given), 5), deep(encoding(given)[:len(encoding(given))/2], 5)} {
			before := told(b, true)
			Decode(b)
			if told(b, true) != before {
				t.Fatalf("a text is written to: % X", b)
			}
		}
	}
	for _, codes := range [][]rune{nil, []rune("cabbage"), {5, -1, 5, 0xD800, 3}, indexed(6000, func(i int) rune { return rune(9000 - i) })} {
		codes = deep(codes, 4)
		before := told(codes, true)
		Plain(codes, 5)
		if told(codes, true) != before {
			t.Fatalf("codes are written to: %X", codes)
		}
	}
}

// No result shares memory with an argument, nor with another result.
func TestR5Results(t *testing.T) {
	next := stream()
	for _, f := range append(fonts(next, 200), limits()...) {
		b, _ := Encode(f)
		again, _ := Encode(f)
		fresh(t, b, f, again)
		decoded, _ := Decode(b)
		twice, _ := Decode(b)
		fresh(t, decoded, b, f, twice, again)
		want := told(decoded, false)
		spoil(b)
		spoil(twice)
		if told(decoded, false) != want {
			t.Fatal("writing to a text, or to another font, changes the font that was read")
		}
		spoil(decoded)
		if back, e := Decode(again); e != api.OK || told(back, false) != want || told(f, false) != want {
			t.Fatal("writing to a font changes what Decode returns")
		}
		if b, e := Encode(f); e != api.OK || !bytes.Equal(b, again) {
			t.Fatal("writing to a text changes what Encode returns")
		}
	}
	codes := []rune("typecase")
	f, g := Plain(codes, 5), Plain(codes, 5)
	fresh(t, f, codes, g)
	want := told(g, false)
	spoil(f)
	spoil(codes)
	if told(g, false) != want || told(Plain([]rune("typecase"), 5), false) != want {
		t.Error("writing to a font, or to the codes, changes another font")
	}
}

// What a call returns doesn't hang on the calls before it, with errors or without.
func TestR4Calls(t *testing.T) {
	next := stream()
	var calls []func() string
	for _, f := range append(fonts(next, 40), indexed(40, func(int) api.Font { return garbage(next) })...) {
		text := encoding(f)
		cut := text[:next(len(text))]
		calls = append(calls,
			func() string { return told(int(Check(f)), false) },
			func() string { b, e := Encode(f); return told(b, false) + told(int(e), false) },
			func() string { g, e := Decode(text); return told(g, false) + told(int(e), false) },
			func() string { g, e := Decode(cut); return told(g, false) + told(int(e), false) },
			func() string { return told(Clone(f), false) },
			func() string { return told(Same(f, full()), false) },
			func() string { return told(Plain([]rune(string(cut)), len(cut)), false) },
			func() string { return told(Sorts(len(cut)%15), false) },
		)
	}
	first := indexed(len(calls), func(i int) string { return calls[i]() })
	for range 8000 {
		if i := next(len(calls)); calls[i]() != first[i] {
			t.Fatalf("call %d returns something else", i)
		}
	}
}

// No call panics, whatever it is given.
func TestR1Garbage(t *testing.T) {
	next := stream()
	before := full()
	for range 20000 {
		f := garbage(next)
		Check(f)
		Encode(f)
		Same(f, before)
		Same(before, f)
		Clone(f)
		Decode(indexed(next(40), func(int) byte { return byte(next(256)) }))
		Plain(indexed(next(9), func(int) rune { return rune(next(1<<32) - 1<<31) }), next(1<<32)-1<<31)
		Sorts(next(40) - 10)
		before = f
	}
}

func TestR8Limits(t *testing.T) {
	for _, f := range limits() {
		if got := judge(t, f); got != "" {
			t.Errorf("broken: %s", got)
		}
		c := Clone(f)
		agree(t, f, c)
		fresh(t, c, f)
		c.Lookups[10].Subs = nil
		agree(t, f, c)
	}
}

// Texts of 2^20 bytes.
func TestR8LongTexts(t *testing.T) {
	next := stream()
	for _, before := range []string{"", "TCF1", "TCF1 02", "TCF1 02 80 80 08", "TCF1 02 02 00 00 00 80 80 08", "TCF1 02 02" + zeros(4) + " 80 80 08", "TCF1 02 02" + zeros(5) + " 80 80 08", "TCF1 02 02" + zeros(5) + " 02 02 00 00 80 80 08", "TCF1 02 02" + zeros(5) + " 02 02 00 00 02 00 80 80 08", "TCF1 02 02" + zeros(7) + " 80 80 08", least} {
		for _, body := range [][]byte{{0}, {1}, {2}, {0x7F}, {0x80}, {0xFF}, {2, 0}, {0, 2}, {'a'}, {0x80, 0x80, 0x80, 0x80, 1}, {0x7E, 0, 0, 0}, {4, 0, 2}} {
			b := slices.Concat(text(before), bytes.Repeat(body, (1<<20)/len(body)))
			reads(t, b[:1<<20])
		}
		reads(t, slices.Concat(text(before), indexed(1<<20-100, func(int) byte { return byte(next(256)) })))
		reads(t, slices.Concat(text(before), indexed(1<<20-100, func(int) byte { return byte(next(16)/12) * 2 })))
	}
}

func TestExamples(t *testing.T) {
	f := Plain([]rune("a"), 5)
	if Check(f) != api.OK || Check(api.Font{Em: 1000}) != api.ErrFont {
		t.Errorf("Check: %d, %d", Check(f), Check(api.Font{Em: 1000}))
	}
	if b, e := Encode(f); e != api.OK || !bytes.HasPrefix(b, []byte("TCF1\xD0\x0F\x04")) {
		t.Errorf("% X, %d", b, e)
	}
	encodes(t, f, "TCF1 D0 0F | 04 0A 00 00 00 0A 02 00 00 | 02 C2 01 02 | 00 00 00")
	if _, e := Decode([]byte("TCF")); e != api.ErrEnd {
		t.Errorf("TCF: %d", e)
	}
	if _, e := Decode([]byte("TCF2")); e != api.ErrForm {
		t.Errorf("TCF2: %d", e)
	}
	if Sorts(api.LkSingle) != 1 || Sorts(api.LkReverse) != 1 || Sorts(api.LkAdjust) != 2 || Sorts(api.LkPosContext) != 2 || Sorts(0) != 0 || Sorts(13) != 0 {
		t.Error("Sorts")
	}
}
