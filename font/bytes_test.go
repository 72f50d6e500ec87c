package font

import (
	"bytes"
	"math"
	"slices"
	"strconv"
	"strings"
	"testing"

	"typecase/api"
)

// text returns the bytes that are written as two digits of base 16, or as they are if they are four; bars mean nothing.
func text(written string) []byte {
	var b []byte
	for word := range strings.FieldsSeq(strings.ReplaceAll(written, "|", " ")) {
		if n, e := strconv.ParseUint(word, 16, 8); e == nil && len(word) == 2 {
			b = append(b, byte(n))
		} else if len(word) == 4 {
			b = append(b, word...)
		} else {
			panic(word)
		}
	}
	return b
}

// zeros is so many bytes 00.
func zeros(n int) string { return strings.Repeat(" 00", n) }

// least is the encoding of the least font.
const least = "TCF1 02 | 02 00 00 00 00 | 00 | 00 | 00 | 00"

// encodes checks that the font, which is valid, has this encoding.
func encodes(t *testing.T, f api.Font, written string) {
	t.Helper()
	want := text(written)
	if b, e := Encode(f); e != api.OK || !bytes.Equal(b, want) {
		t.Errorf("Encode(%v) = % X, %d, not % X", f, b, e, want)
	}
	if got, e := Decode(want); e != api.OK || !Same(got, f) || told(got, false) != told(f, false) {
		t.Errorf("Decode(% X) = %v, %d, not %v", want, got, e, f)
	}
	judge(t, f)
}

// digits are numbers with their encodings.
func digits() map[int]string {
	return map[int]string{
		0: "00", 1: "02", -1: "01", 2: "04", -2: "03", 63: "7E", 64: "80 01", -63: "7D", -64: "7F", -65: "81 01", 65: "82 01", 127: "FE 01", 128: "80 02", -128: "FF 01", -129: "81 02",
		8191: "FE 7F", 8192: "80 80 01", -8192: "FF 7F", -8193: "81 80 01", 16384: "80 80 02", 255: "FE 03", 256: "80 04", 4095: "FE 3F", 1000: "D0 0F", 1048575: "FE FF 7F", 1048576: "80 80 80 01", -1048576: "FF FF 7F", -1048575: "FD FF 7F",
		0x10FFFF: "FE FF 87 01", 0xD7FF: "FE DF 06", 0xE000: "80 80 07", 0xFFFF: "FE FF 07", 0x10000: "80 80 08", 0xFF1E: "BC FC 07", 0xFF00: "80 FC 07",
	}
}

func TestP21_2Numbers(t *testing.T) {
	for n, written := range digits() {
		f := small()
		if n >= -1048576 && n <= 1048576 {
			f.Glyphs[0].Adv = n
			encodes(t, f, "TCF1 02 02"+" "+written+zeros(7))
		}
		if n >= 1 && n <= 16384 {
			f = small()
			f.Em = n
			encodes(t, f, "TCF1 "+written+" 02"+zeros(8))
		}
		if n >= 0 && n <= 0x10FFFF {
			f = small()
			f.Maps = []api.Map{{Code: rune(n)}}
			encodes(t, f, "TCF1 02 02 00 00 00 00 02 "+written+zeros(4))
		}
		if n >= 0 && n <= 255 {
			f = small()
			f.Glyphs[0].Attach = n
			encodes(t, f, "TCF1 02 02 00 00 "+written+zeros(5))
		}
	}
	for flags, written := range map[int]string{0xFF1E: "BC FC 07", 0xFF00: "80 FC 07", 2: "04", 16: "20", 0x0100: "80 04"} {
		f := small()
		f.Sets, f.Lookups = [][]int{{0}}, []api.Lookup{{Kind: api.LkPosContext, Flags: flags}}
		encodes(t, f, "TCF1 02 02 00 00 00 00 | 00 | 02 18 "+written+" 00 00 | 00 | 02 02 00")
	}
}

// lookup is a font of two glyphs and that lookup.
func lookup(l api.Lookup) api.Font {
	return api.Font{Em: 1, Glyphs: make([]api.Info, 2), Lookups: []api.Lookup{l}}
}

// around returns the encoding of that font, whose lookup has the given one.
func around(written string) string {
	return "TCF1 02 | 04" + zeros(8) + "| 00 | 02" + written + "| 00 | 00"
}

func TestP21_2Lookups(t *testing.T) {
	for _, c := range []struct {
		l       api.Lookup
		written string
	}{
		{api.Lookup{Kind: 1, Flags: 0xFF02}, "| 02 84 FC 07 00 | 00"},
		{api.Lookup{Kind: 7, Subs: make([]api.Sub, 2)}, "| 0E 00 00 | 04" + zeros(24)},
		{api.Lookup{Kind: 1, Subs: []api.Sub{{Cover: []int{0, 1}, To: [][]int{{1}, {0}}}}}, "| 02 00 00 | 02 | 04 00 02 | 04 02 02 02 00 |" + zeros(10)},
		{api.Lookup{Kind: 2, Subs: []api.Sub{{Cover: []int{1}, To: [][]int{{1, 0, 1}}}}}, "| 04 00 00 | 02 | 02 02 | 02 06 02 00 02 |" + zeros(10)},
		{api.Lookup{Kind: 3, Subs: []api.Sub{{Cover: []int{0, 1}, Ligs: [][]api.Lig{{{Parts: []int{1, 1}, Glyph: 0}, {Parts: []int{0}, Glyph: 1}}, {}}}}}, "| 06 00 00 | 02 | 04 00 02 | 00 | 04 04 04 02 02 00 02 00 02 00 |" + zeros(9)},
		{api.Lookup{Kind: 4, Subs: []api.Sub{{Back: [][]int{{1}, {}}, In: [][]int{{0, 1}}, Ahead: [][]int{{0}, {1}, {0}}, Nests: []api.Nest{{At: 0, Lookup: 0}}}}}, "| 08 00 00 | 02 | 00 00 00 | 04 02 02 00 | 02 04 00 02 | 06 02 00 02 02 02 00 | 02 00 00 |" + zeros(5)},
		{api.Lookup{Kind: 5, Subs: []api.Sub{{Cover: []int{1}, To: [][]int{{0}}, Back: [][]int{{0}}, Ahead: [][]int{{1}}}}}, "| 0A 00 00 | 02 | 02 02 | 02 02 00 | 00 | 02 02 00 | 00 | 02 02 02 |" + zeros(6)},
		{api.Lookup{Kind: 6, Subs: []api.Sub{{Cover: []int{0}, Values: []api.Value{{Adv: 1, DX: -1, DY: 64}}}}}, "| 0C 00 00 | 02 | 02 00 |" + zeros(6) + "| 02 02 01 80 01 |" + zeros(4)},
		{api.Lookup{Kind: 7, Subs: []api.Sub{{Pairs: []api.Pair{{First: 1, Second: 0, A: api.Value{Adv: 1, DX: 2, DY: 3}, B: api.Value{Adv: -1, DX: -2, DY: -3}}}}}}, "| 0E 00 00 | 02 |" + zeros(8) + "| 02 02 00 02 04 06 01 03 05 |" + zeros(3)},
		{api.Lookup{Kind: 8, Subs: []api.Sub{{Curs: []api.Curs{{Glyph: 0, HasEntry: true, Entry: api.Anchor{X: 1, Y: -1}}, {Glyph: 1, HasExit: true, Exit: api.Anchor{X: 5, Y: 6}}}}}}, "| 10 00 00 | 02 |" + zeros(9) + "| 04 00 02 00 02 01 00 00 02 00 02 00 00 0A 0C |" + zeros(2)},
		{api.Lookup{Kind: 9, Subs: []api.Sub{{Marks: []api.MarkAt{{Glyph: 1, Class: 15, At: api.Anchor{X: 7, Y: -7}}}, Hosts: []api.Host{{Glyph: 0, Spots: [][]api.Spot{{{Has: true, At: api.Anchor{X: -64, Y: 64}}, {}}}}}}}}, "| 12 00 00 | 02 |" + zeros(10) + "| 02 02 1E 0E 0D | 02 00 02 04 02 7F 80 01 00 00 00"},
		{api.Lookup{Kind: 10, Subs: []api.Sub{{Hosts: []api.Host{{Glyph: 1, Spots: [][]api.Spot{{}, {{Has: true}}}}}}}}, "| 14 00 00 | 02 |" + zeros(11) + "| 02 02 04 00 02 02 00 00"},
		{api.Lookup{Kind: 11, Subs: []api.Sub{{Marks: []api.MarkAt{{}, {Glyph: 1, Class: 1, At: api.Anchor{X: 1, Y: 1}}}}}}, "| 16 00 00 | 02 |" + zeros(10) + "| 04 00 00 00 00 02 02 02 02 | 00"},
		{api.Lookup{Kind: 12, Subs: []api.Sub{{In: [][]int{{}}, Nests: []api.Nest{{}}}}}, "| 18 00 00 | 02 |" + zeros(4) + "| 02 00 | 00 | 02 00 00 |" + zeros(5)},
	} {
		encodes(t, lookup(c.l), around(c.written))
	}
}

func TestP21_2Fonts(t *testing.T) {
	glyphs := api.Font{Em: 2, Glyphs: []api.Info{{Adv: 1, Kind: api.GkMark, Attach: 3}, {Adv: -3, Kind: api.GkLig, Attach: 255, Carets: []int{-5, 300}}, {Adv: 4, Kind: api.GkBase}}}
	encodes(t, glyphs, "TCF1 04 | 06 | 02 06 06 00 | 05 04 FE 03 04 09 D8 04 | 08 02 00 00 | 00 00 00 00")
	maps := api.Font{Em: 1, Glyphs: make([]api.Info, 2), Maps: []api.Map{{Code: 0, Glyph: 1}, {Code: 0x10FFFF, Glyph: 0}}}
	encodes(t, maps, "TCF1 02 | 04"+zeros(8)+"| 04 00 02 FE FF 87 01 00 | 00 00 00")
	sets := api.Font{Em: 1, Glyphs: make([]api.Info, 2), Sets: [][]int{{0, 1}, {}, {1}}}
	encodes(t, sets, "TCF1 02 | 04"+zeros(8)+"| 00 00 00 | 06 04 00 02 00 02 02")
	feats := lookup(api.Lookup{Kind: api.LkSingle, Flags: api.OneSet, Set: 1})
	feats.Lookups = append(feats.Lookups, api.Lookup{Kind: api.LkMarkMark})
	feats.Feats = []api.Feat{{Tag: "liga", Script: api.None, Lookups: []int{0, 1}}, {Tag: "~!Az", Script: api.ScDevanagari}, {Tag: "liga", Script: api.ScCommon, Lookups: []int{1}}}
	feats.Sets = [][]int{{}, {0}}
	encodes(t, feats, "TCF1 02 | 04"+zeros(8)+"| 00 | 04 02 20 02 00 16 00 00 00 | 06 liga 01 04 00 02 ~!Az 16 00 liga 00 02 02 | 04 00 02 00")
	encodes(t, small(), least)
}

// A long list, whose length takes more than a byte.
func TestP21_2Lengths(t *testing.T) {
	for n, written := range map[int]string{63: "7E", 64: "80 01", 65: "82 01", 127: "FE 01", 128: "80 02", 4095: "FE 3F"} {
		f := small()
		f.Glyphs = make([]api.Info, n)
		encodes(t, f, "TCF1 02 | "+written+zeros(4*n)+zeros(4))
	}
}

func TestP21_2NotValid(t *testing.T) {
	for _, spoil := range []func(f *api.Font){
		func(f *api.Font) { f.Em = 0 }, func(f *api.Font) { *f = api.Font{} }, func(f *api.Font) { f.Sets[2][1] = 8 }, func(f *api.Font) { f.Feats[2].Tag = "!k~" },
		func(f *api.Font) { f.Lookups[11].Subs[0].Nests[1].Lookup = 12 }, func(f *api.Font) { f.Maps[0].Code = 'b' },
	} {
		f := full()
		spoil(&f)
		if b, e := Encode(f); e != api.ErrFont || len(b) > 0 {
			t.Errorf("Encode(%v) = % X, %d", f, b, e)
		}
		judge(t, f)
	}
}

// A text and the error with which it is read.
type decodeRow struct {
	written string
	e       api.Errno
}

func checkDecodes(t *testing.T, rows []decodeRow) {
	t.Helper()
	for _, c := range rows {
		f, e := Decode(text(c.written))
		if e != c.e || e != api.OK && told(f, false) != told(api.Font{}, false) {
			t.Errorf("Decode(%s) = %v, %d", c.written, f, e)
		}
		reads(t, text(c.written))
	}
}

func TestP21_2DecodeStart(t *testing.T) {
	checkDecodes(t, []decodeRow{
		{"", api.ErrEnd}, {"54", api.ErrEnd}, {"54 43", api.ErrEnd}, {"54 43 46", api.ErrEnd}, {"54 43 46 31", api.ErrEnd}, {least, api.OK},
		{"53", api.ErrForm}, {"55", api.ErrForm}, {"74", api.ErrForm}, {"00", api.ErrForm}, {"43", api.ErrForm}, {"54 00", api.ErrForm}, {"54 54", api.ErrForm}, {"54 46", api.ErrForm}, {"54 43 31", api.ErrForm}, {"54 43 43", api.ErrForm}, {"54 43 46 30", api.ErrForm}, {"54 43 46 32", api.ErrForm}, {"54 43 46 B1", api.ErrForm},
		{"UCF1" + least[4:], api.ErrForm}, {"TDF1" + least[4:], api.ErrForm}, {"TCG1" + least[4:], api.ErrForm}, {"TCF2" + least[4:], api.ErrForm}, {"TCF0" + least[4:], api.ErrForm}, {"tcf1" + least[4:], api.ErrForm}, {"1FCT" + least[4:], api.ErrForm},
		{least[4:], api.ErrForm}, {"EF BB BF " + least, api.ErrForm}, {"00 " + least, api.ErrForm}, {"TCF1 " + least, api.ErrForm},
	})
}

func TestP21_2DecodeNumbers(t *testing.T) {
	rest := " 02 00 00 00 00 00 00 00 00"
	checkDecodes(t, []decodeRow{
		{"TCF1 80", api.ErrEnd}, {"TCF1 80 80", api.ErrEnd}, {"TCF1 80 80 80", api.ErrEnd}, {"TCF1 80 80 80 80", api.ErrEnd}, {"TCF1 80 80 80 80 80", api.ErrEnd}, {"TCF1 FF FF FF FF FF", api.ErrEnd}, {"TCF1 81 82 83 84 85", api.ErrEnd},
		{"TCF1 80 80 80 80 80 00", api.ErrForm}, {"TCF1 80 80 80 80 80 01", api.ErrForm}, {"TCF1 80 80 80 80 80 80", api.ErrForm}, {"TCF1 80 80 80 80 80 7F", api.ErrForm}, {"TCF1 FF FF FF FF FF FF", api.ErrForm}, {"TCF1 82 80 80 80 80 01" + rest, api.ErrForm}, {"TCF1 80 80 80 80 80 80 01" + rest, api.ErrForm},
		{"TCF1 80 00", api.ErrForm}, {"TCF1 82 00", api.ErrForm}, {"TCF1 FF 00", api.ErrForm}, {"TCF1 80 80 00", api.ErrForm}, {"TCF1 82 81 00", api.ErrForm}, {"TCF1 80 80 80 00", api.ErrForm}, {"TCF1 80 80 80 80 00", api.ErrForm}, {"TCF1 FF FF FF FF 00", api.ErrForm}, {"TCF1 82 00" + rest, api.ErrForm}, {"TCF1 82 80 00" + rest, api.ErrForm}, {"TCF1 82 80 80 80 00" + rest, api.ErrForm},
		{"TCF1 82 80 80 80 01" + rest, api.ErrFont}, {"TCF1 82 80 80 01" + rest, api.ErrFont}, {"TCF1 82 80 80 80 20" + rest, api.ErrFont}, {"TCF1 82 80 80 80 40" + rest, api.ErrFont}, {"TCF1 FF FF FF FF 7F" + rest, api.ErrFont}, {"TCF1 FE FF FF FF 7F" + rest, api.ErrFont}, {"TCF1 82 80 80 80 10" + rest, api.ErrFont}, {"TCF1 82 80 80 80 08" + rest, api.ErrFont},
		{"TCF1 82 01" + rest, api.OK}, {"TCF1 80 80 02" + rest, api.OK}, {"TCF1 82 80 02" + rest, api.ErrFont}, {"TCF1 00" + rest, api.ErrFont}, {"TCF1 01" + rest, api.ErrFont}, {"TCF1 03" + rest, api.ErrFont}, {"TCF1 02" + rest, api.OK},
		{"TCF1 02 02 80 80 80 01" + zeros(7), api.OK}, {"TCF1 02 02 82 80 80 01" + zeros(7), api.ErrFont}, {"TCF1 02 02 FF FF 7F" + zeros(7), api.OK}, {"TCF1 02 02 81 80 80 01" + zeros(7), api.ErrFont}, {"TCF1 02 02 80 80 80 80 20" + zeros(7), api.ErrFont},
	})
}

// Numbers that their field can't hold, and that would be right without some of their bits.
func TestP21_2DecodeGreatNumbers(t *testing.T) {
	maps := "TCF1 02 02 00 00 00 00 02 "
	checkDecodes(t, []decodeRow{
		{maps + "C2 01 00 00 00 00", api.OK}, {maps + "C2 81 80 80 20 00 00 00 00", api.ErrFont}, {maps + "C2 81 80 80 10 00 00 00 00", api.ErrFont}, {maps + "C2 81 80 80 40 00 00 00 00", api.ErrFont}, {maps + "BD FE FF FF 1F 00 00 00 00", api.ErrFont}, {maps + "BD FE FF FF 3F 00 00 00 00", api.ErrFont},
		{maps + "00 80 80 80 80 20 00 00 00", api.ErrFont}, {maps + "00 80 80 80 80 10 00 00 00", api.ErrFont}, {maps + "00 00 00 00 00", api.OK}, {maps + "80 80 80 80 20 00 00 00 00", api.ErrFont}, {maps + "FF FF FF FF 1F 00 00 00 00", api.ErrFont},
	})
	for _, f := range []api.Font{full(), Plain([]rune("ab"), 500)} {
		list := fontTokens(f)
		for i, token := range list {
			if len(token) == 4 && token[0] < 128 {
				continue // a Tag
			}
			d := &decoder{bytes: token}
			n := d.number()
			for _, add := range []int{1 << 33, 3 << 31, 1 << 32, 1 << 31, 1 << 30, 1 << 29, 1 << 28, 1 << 27, 1 << 24, 1 << 22} {
				for _, other := range []int{n + add, n - add} {
					changed := slices.Concat([]byte("TCF1"), slices.Concat(list[:i]...), number(other), slices.Concat(list[i+1:]...))
					if e := reads(t, changed); e == api.OK {
						t.Errorf("number %d, with %d in the place of %d, is accepted", i, other, n)
					}
				}
			}
		}
	}
}

func TestP21_2DecodeLengths(t *testing.T) {
	checkDecodes(t, []decodeRow{
		{"TCF1 02 80 80 08", api.ErrEnd}, {"TCF1 02 80 80 08 00 00 00", api.ErrEnd}, {"TCF1 02 FE FF 07", api.ErrEnd}, {"TCF1 02 82 80 08", api.ErrForm}, {"TCF1 02 82 80", api.ErrEnd}, {"TCF1 02 84 80 08", api.ErrForm}, {"TCF1 02 80 80 80 01", api.ErrForm}, {"TCF1 02 80 80 80 80 01", api.ErrForm}, {"TCF1 02 80 80 80 80 20", api.ErrForm}, {"TCF1 02 82 80 80 80 20" + zeros(8), api.ErrForm}, {"TCF1 02 FE FF FF FF 7F", api.ErrForm},
		{"TCF1 02 01", api.ErrForm}, {"TCF1 02 03", api.ErrForm}, {"TCF1 02 7F", api.ErrForm}, {"TCF1 02 FF 01", api.ErrForm}, {"TCF1 02 FF", api.ErrEnd}, {"TCF1 02 FF FF 07", api.ErrForm}, {"TCF1 02 FF FF FF FF 7F", api.ErrForm}, {"TCF1 02 81 80 80 80 20", api.ErrForm},
		{"TCF1 02 04 00 00 00 00", api.ErrEnd}, {"TCF1 02 04 00 00 00 00 00 00 00 00", api.ErrEnd}, {"TCF1 02 04 00 00 00 00 00 00 00 00 00 00 00", api.ErrEnd}, {"TCF1 02 04 00 00 00 00 00 00 00 00 00 00 00 00", api.OK}, {"TCF1 02 7E" + zeros(200), api.ErrEnd}, {"TCF1 02 7E" + zeros(255), api.ErrEnd}, {"TCF1 02 7E" + zeros(256), api.OK}, {"TCF1 02 7E" + zeros(257), api.ErrForm},
	})
	// In the place of each length of a font: 65536, 65537, -1, -65536 and 1 more or fewer than there are.
	for n, written := range []string{"80 80 08", "82 80 08", "01", "FF FF 07"} {
		for _, empty := range []string{
			"TCF1 02 ?", "TCF1 02 02 00 00 00 ?", "TCF1 02 02" + zeros(4) + " ?", "TCF1 02 02" + zeros(5) + " ?", "TCF1 02 02" + zeros(6) + " ?", "TCF1 02 02" + zeros(7) + " ?",
			"TCF1 02 02" + zeros(5) + " 02 00 00 00 ?", "TCF1 02 02" + zeros(6) + " 02 aaaa 00 ?", "TCF1 02 02" + zeros(7) + " 02 ?",
		} {
			e := []api.Errno{api.ErrEnd, api.ErrForm, api.ErrForm, api.ErrForm}[n]
			checkDecodes(t, []decodeRow{{strings.ReplaceAll(empty, "?", written), e}, {strings.ReplaceAll(empty, "?", written) + " 60", e}})
		}
		for field := range 12 {
			e := []api.Errno{api.ErrEnd, api.ErrForm, api.ErrForm, api.ErrForm}[n]
			checkDecodes(t, []decodeRow{{"TCF1 02 02" + zeros(5) + " 02 00 00 00 02" + zeros(field) + " " + written, e}})
		}
		for _, within := range []string{zeros(1) + " 02 ?", zeros(2) + " 02 ?", zeros(2) + " 02 02 ?", zeros(3) + " 02 ?", zeros(4) + " 02 ?", zeros(5) + " 02 ?", zeros(11) + " 02 00 ?", zeros(11) + " 02 00 02 ?"} {
			e := []api.Errno{api.ErrEnd, api.ErrForm, api.ErrForm, api.ErrForm}[n]
			checkDecodes(t, []decodeRow{{"TCF1 02 02" + zeros(5) + " 02 00 00 00 02" + strings.ReplaceAll(within, "?", written), e}})
		}
	}
}

// Lists of 65536 elements, and of one more.
func TestP21_2DecodeLongest(t *testing.T) {
	for length, want := range map[string]api.Errno{"80 80 08": api.ErrFont, "82 80 08": api.ErrForm} {
		for _, c := range []struct {
			before, after string
			size          int
		}{{"TCF1 02", zeros(4), 4}, {"TCF1 02 02 00 00 00", zeros(4), 1}, {"TCF1 02 02" + zeros(4), zeros(3), 2}, {"TCF1 02 02" + zeros(7), "", 1}, {"TCF1 02 02" + zeros(7) + " 02", "", 1}, {"TCF1 02 02" + zeros(5) + " 02 02 00 00 02 00", zeros(12), 1}} {
			b := slices.Concat(text(c.before), text(length), make([]byte, 65536*c.size), text(c.after))
			if e := reads(t, b); e != want {
				t.Errorf("%s %s ..: %d", c.before, length, e)
			}
			if e := reads(t, b[:len(b)-1]); want == api.ErrFont && e != api.ErrEnd {
				t.Errorf("%s %s .., without the last byte: %d", c.before, length, e)
			}
		}
	}
}

func TestP21_2DecodeBooleans(t *testing.T) {
	cursive := "TCF1 02 02" + zeros(5) + " 02 10 00 00 02" + zeros(9) + " 02 00 "
	spots := "TCF1 02 02" + zeros(5) + " 02 12 00 00 02" + zeros(11) + " 02 00 02 02 "
	checkDecodes(t, []decodeRow{
		{cursive + "00 00 00 00 00 00 | 00 00 | 00 00", api.OK}, {cursive + "02 02 02 02 02 02 | 00 00 | 00 00", api.OK}, {cursive + "02 00 00 00 00 00 | 00 00 | 00 00", api.OK}, {cursive + "00 02 00 00 00 00 | 00 00 | 00 00", api.OK}, {cursive + "00 02 02 00 00 00 | 00 00 | 00 00", api.ErrFont},
		{cursive + "04", api.ErrForm}, {cursive + "01", api.ErrForm}, {cursive + "03", api.ErrForm}, {cursive + "06", api.ErrForm}, {cursive + "7F", api.ErrForm}, {cursive + "80", api.ErrEnd}, {cursive + "80 01", api.ErrForm}, {cursive + "82 01", api.ErrForm}, {cursive + "80 00", api.ErrForm}, {cursive + "82 80 80 80 20", api.ErrForm}, {cursive + "80 80 80 80 20", api.ErrForm}, {cursive, api.ErrEnd}, {cursive + "02", api.ErrEnd},
		{cursive + "00 04", api.ErrForm}, {cursive + "02 01", api.ErrForm}, {cursive + "02 80 80 08", api.ErrForm}, {cursive + "02 04 00 00 00 00 | 00 00 | 00 00", api.ErrForm}, {cursive + "00 03 00 00 00 00 | 00 00 | 00 00", api.ErrForm}, {cursive + "02 80 80 80 80 20 00 00 00 00 | 00 00 | 00 00", api.ErrForm},
		{spots + "00 00 00 | 00 00", api.OK}, {spots + "02 00 00 | 00 00", api.OK}, {spots + "02 01 02 | 00 00", api.OK}, {spots + "00 01 02 | 00 00", api.ErrFont}, {spots + "04", api.ErrForm}, {spots + "01", api.ErrForm}, {spots + "01 00 00 | 00 00", api.ErrForm}, {spots + "82 01", api.ErrForm}, {spots + "82", api.ErrEnd}, {spots, api.ErrEnd}, {spots + "FF FF FF FF 7F 00 00 00 00", api.ErrForm},
	})
}

func TestP21_2DecodeTags(t *testing.T) {
	before := append(text("TCF1 02 02"+zeros(6)), 2)
	for i := range 4 {
		for b := range 256 {
			tag := []byte("liga")
			tag[i] = byte(b)
			want := api.OK
			if b < 33 || b > 126 {
				want = api.ErrForm
			}
			if e := reads(t, slices.Concat(before, tag, text("00 00 00"))); e != want {
				t.Errorf("the tag %q: %d", tag, e)
			}
			if want == api.OK {
				want = api.ErrEnd
			}
			if e := reads(t, slices.Concat(before, tag[:i+1])); e != want {
				t.Errorf("the start %q of a tag: %d", tag[:i+1], e)
			}
		}
	}
	for _, more := range []string{"", "!", "!~", "abc"} {
		if e := reads(t, append(slices.Clone(before), more...)); e != api.ErrEnd {
			t.Errorf("%q: %d", more, e)
		}
	}
}

// Where there are two errors, the one that is met first counts; a font that is not valid is told last.
func TestP21_2DecodeFirstError(t *testing.T) {
	feats := "TCF1 00 02" + zeros(6) + " 02 "
	checkDecodes(t, []decodeRow{
		{"TCF1 00 02" + zeros(8), api.ErrFont}, {"TCF1 00 02" + zeros(9), api.ErrForm}, {"TCF1 00 02" + zeros(7), api.ErrEnd}, {"TCF1 00 02" + zeros(4) + " 01", api.ErrForm}, {"TCF1 00 02" + zeros(7) + " 02 80", api.ErrEnd}, {"TCF1 00 02" + zeros(7) + " 80 00", api.ErrForm},
		{"TCF1 00 00 00 00 00", api.ErrEnd}, {"TCF1 00 00 00 00 00 00", api.ErrFont}, {"TCF1 02 00 00 00 00 00", api.ErrFont}, {"TCF1 02 00 00 00 00 00 00", api.ErrForm}, {"TCF1 02 00 00 00 00 01", api.ErrForm},
		{least + " 00", api.ErrForm}, {least + " 80", api.ErrForm}, {least + " FF FF", api.ErrForm}, {least + " " + least, api.ErrForm},
		{feats + "aaaa 00 00 00", api.ErrFont}, {feats + "20 aa", api.ErrForm}, {feats + "61", api.ErrEnd}, {feats + "61 20", api.ErrForm}, {feats + "61 61 7F", api.ErrForm}, {feats + "aaaa 80 00", api.ErrForm}, {feats + "aaaa 18 00 00", api.ErrFont}, {feats + "aaaa 18 00 00 00", api.ErrForm}, {feats + "aaaa 18 00", api.ErrEnd},
		{"TCF1 80 00 01", api.ErrForm}, {"TCF1 80 80 80 80 80 80", api.ErrForm}, {"TCF2 80", api.ErrForm}, {"TCF1 02 82 80 08 80 00", api.ErrForm}, {"TCF1 02 80 80 08 80 00", api.ErrForm}, {"TCF1 02 80 80 08 80", api.ErrEnd}, {"TCF1 02 80 80 08 00 00 00 01", api.ErrForm}, {"TCF1 02 80 80 08 00 00 00 00", api.ErrEnd},
	})
}

// P21.5: the valid fonts of the tests, both ways.
func TestP21_5BothWays(t *testing.T) {
	for _, f := range slices.Concat(fonts(stream(), 3000), limits()) {
		b, e := Encode(f)
		if e != api.OK || !bytes.Equal(b, encoding(f)) {
			t.Fatalf("Encode(%v): %d", f, e)
		}
		back, e := Decode(b)
		if e != api.OK || !Same(back, f) || told(back, false) != told(f, false) {
			t.Fatalf("Decode(% X): %d", b, e)
		}
	}
}

// places returns all places of a text, or some if they are many, the first and the last ones among them.
func places(n int) []int {
	if n <= 1000 {
		return up(0, n)
	}
	return slices.Concat(up(0, 40), indexed(20, func(i int) int { return 40 + (n-80)*i/20 }), up(n-40, 40))
}

func TestP21_2Cut(t *testing.T) {
	for _, f := range slices.Concat(fonts(stream(), 300), limits()) {
		b := encoding(f)
		for _, i := range places(len(b)) {
			if got, e := Decode(b[:i]); e != api.ErrEnd || told(got, false) != told(api.Font{}, false) {
				t.Fatalf("Decode(% X) = %v, %d", b[:i], got, e)
			}
		}
		for _, more := range []byte{0, 1, 2, 127, 128, 255, 'T'} {
			if got, e := Decode(append(b, more)); e != api.ErrForm || told(got, false) != told(api.Font{}, false) {
				t.Fatalf("Decode(% X) = %v, %d", append(b, more), got, e)
			}
		}
	}
}

// Each byte of an encoding changed; and some taken away, or put in.
func TestP21_2Changed(t *testing.T) {
	next := stream()
	for i, f := range fonts(next, 25) {
		b := encoding(f)
		for _, at := range places(len(b)) {
			others := []byte{b[at] ^ 1, b[at] ^ 2, b[at] ^ 4, b[at] ^ 8, b[at] ^ 16, b[at] ^ 32, b[at] ^ 64, b[at] ^ 128, b[at] + 1, b[at] - 1, b[at] - 2, b[at] + 2, 0, 1, 2, 127, 128, 255}
			if i > 0 && i < 4 {
				others = indexed(256, func(n int) byte { return byte(n) })
			}
			if i >= 4 {
				others = others[next(5):][:6]
			}
			for _, other := range others {
				changed := slices.Clone(b)
				changed[at] = other
				reads(t, changed)
			}
			reads(t, slices.Delete(slices.Clone(b), at, at+1))
			reads(t, slices.Insert(slices.Clone(b), at, byte(next(256))))
			reads(t, slices.Insert(slices.Clone(b), at, 0x80))
		}
	}
}

// Each number and each Tag of an encoding with another thing in its place.
func TestP21_2ChangedTokens(t *testing.T) {
	others := [][]byte{[]byte("kern"), []byte("li a"), []byte("l\x7fga"), []byte("lig"), {}, {0x80}, {0x80, 0}, {0x82, 0}, {0x80, 0x80, 0x80, 0x80, 1}, {0x80, 0x80, 0x80, 0x80, 0x80, 1}, {0x82, 0x80, 0x80, 0x80, 0x80, 0x80}}
	for _, n := range []int{0, 1, -1, 2, 3, 4, 5, 7, 8, 11, 12, 13, 15, 16, 17, 255, 256, 4096, 4097, 16384, 16385, 65535, 65536, 65537, -65536, 1048576, 1048577, -1048576, -1048577, 0xD800, 0x110000, 1 << 32, 1<<34 - 1, -1 << 34} {
		others = append(others, number(n))
	}
	for _, f := range fonts(stream(), 2) {
		list := fontTokens(f)
		for i := range list {
			before, after := slices.Concat(list[:i]...), slices.Concat(list[i+1:]...)
			for _, other := range others {
				reads(t, slices.Concat([]byte("TCF1"), before, other, after))
			}
		}
	}
}

// All short texts behind the first four bytes, and those four in all ways.
func TestP21_2Short(t *testing.T) {
	count := map[api.Errno]int{}
	check := func(list []byte) { count[reads(t, append([]byte("TCF1"), list...))]++ }
	all := indexed(256, func(n int) byte { return byte(n) })
	lists(2, all, check)
	lists(13, []byte{0, 2}, check)
	lists(10, []byte{0, 2, 4}, check)
	lists(8, []byte{0, 1, 2, 0x80}, check)
	lists(6, []byte{0, 1, 2, 4, 0x7F, 0x80, 0x82, 0xFF}, check)
	if count[api.OK] == 0 || count[api.ErrFont] == 0 || count[api.ErrForm] == 0 || count[api.ErrEnd] == 0 {
		t.Errorf("%v", count)
	}
	lists(6, []byte("TCF1\x02"), func(list []byte) { reads(t, list) })
	lists(1, all, func(list []byte) { reads(t, list) })
}

// Random texts: of any bytes, and of those that are frequent in encodings; and random changes of encodings.
func TestP21_2Random(t *testing.T) {
	next := stream()
	for range 60000 {
		any := indexed(next(30), func(int) byte { return byte(next(256)) })
		reads(t, any)
		reads(t, append([]byte("TCF1"), any...))
		frequent := indexed(next(60), func(int) byte {
			return []byte{0, 0, 0, 0, 0, 2, 2, 2, 4, 4, 1, 6, 24, 'a', 0x80, 0xD0, byte(next(256))}[next(17)]
		})
		reads(t, slices.Concat([]byte("TCF1"), []byte{2, 2, 0, 0, 0, 0}, frequent))
	}
	for _, f := range fonts(next, 500) {
		for range 30 {
			b := encoding(f)
			for range 1 + next(4) {
				at, to := next(len(b)), next(len(b))
				switch next(5) {
				case 0:
					b[at] = byte(next(256))
				case 1:
					b = slices.Delete(b, at, min(at+1+next(4), len(b)))
				case 2:
					b = slices.Insert(b, at, indexed(1+next(4), func(int) byte { return byte(next(256)) })...)
				case 3:
					b[at], b[to] = b[to], b[at]
				default:
					b = slices.Insert(b, at, slices.Clone(b[min(at, to):max(at, to)])...)
				}
				b = append(b, byte(next(2)))[:max(len(b), 1)]
			}
			reads(t, b)
		}
	}
}

// What the encoding is of fonts that are not valid is read, and told to be none: numbers that no field may hold, too.
func TestP21_2ReadNotValid(t *testing.T) {
	for _, n := range []int{math.MinInt32, -1 << 33, -1048577, 1048577, 1 << 31, 1<<33 - 1, math.MaxInt32} {
		for _, set := range []func(f *api.Font){
			func(f *api.Font) { f.Em = n }, func(f *api.Font) { f.Glyphs[7].Adv = n }, func(f *api.Font) { f.Glyphs[0].Kind = n }, func(f *api.Font) { f.Glyphs[0].Attach = n }, func(f *api.Font) { f.Glyphs[3].Carets[1] = n }, func(f *api.Font) { f.Maps[2].Glyph = n },
			func(f *api.Font) { f.Lookups[1].Kind = n }, func(f *api.Font) { f.Lookups[1].Flags = n }, func(f *api.Font) { f.Lookups[1].Set = n }, func(f *api.Font) { f.Feats[0].Script = n }, func(f *api.Font) { f.Sets[2][1] = n },
			func(f *api.Font) { sub(f, api.LkPosContext).Nests[0].Lookup = n }, func(f *api.Font) { sub(f, api.LkPosContext).Nests[0].At = n }, func(f *api.Font) { sub(f, api.LkMarkLig).Hosts[0].Spots[0][0].At.Y = n },
		} {
			f := full()
			set(&f)
			if got := reads(t, encoding(f)); got != api.ErrFont {
				t.Errorf("%d: %d", n, got)
			}
		}
	}
}
