package font

import (
	"cmp"
	"math"
	"reflect"
	"slices"
	"testing"
	"unsafe"

	"typecase/api"
)

// agree checks what Same says about two fonts, and about each of them with itself.
func agree(t *testing.T, a, b api.Font) {
	t.Helper()
	want := told(a, false) == told(b, false)
	if Same(a, b) != want || Same(b, a) != want {
		t.Fatalf("Same(%v, %v) = %t, %t", a, b, Same(a, b), Same(b, a))
	}
	if !Same(a, a) || !Same(b, b) {
		t.Fatalf("a font is not the same as itself: %v, %v", a, b)
	}
}

// alterations are the ways in which a value is made another one, or perhaps left as it is.
func alterations(v reflect.Value) []func(v reflect.Value) {
	switch v.Kind() {
	case reflect.Int, reflect.Int32:
		return []func(v reflect.Value){func(v reflect.Value) { v.SetInt(v.Int() + 1) }, func(v reflect.Value) { v.SetInt(v.Int() - 1) }, func(v reflect.Value) { v.SetInt(v.Int() ^ 1<<30) }, func(v reflect.Value) {}}
	case reflect.Bool:
		return []func(v reflect.Value){func(v reflect.Value) { v.SetBool(!v.Bool()) }, func(v reflect.Value) {}}
	case reflect.String:
		return []func(v reflect.Value){func(v reflect.Value) { v.SetString(v.String() + "!") }, func(v reflect.Value) { v.SetString("lige") }, func(v reflect.Value) { v.SetString("Liga") }, func(v reflect.Value) { v.SetString("") }, func(v reflect.Value) {}}
	case reflect.Slice:
		return []func(v reflect.Value){
			func(v reflect.Value) { v.Set(reflect.Append(v, reflect.Zero(v.Type().Elem()))) },
			func(v reflect.Value) { v.Set(v.Slice(0, max(v.Len()-1, 0))) },
			func(v reflect.Value) { v.Set(v.Slice(min(v.Len(), 1), v.Len())) },
			func(v reflect.Value) { v.Set(reflect.AppendSlice(v, v)) },
			func(v reflect.Value) { v.Set(v.Slice(0, 0)) },
			func(v reflect.Value) { v.Set(reflect.Zero(v.Type())) },
			func(v reflect.Value) {
				if v.Len() > 1 {
					reflect.Swapper(v.Interface())(0, v.Len()-1)
				}
			},
		}
	}
	return nil
}

// listed returns all values within f.
func listed(f *api.Font) []reflect.Value {
	var list []reflect.Value
	parts(reflect.ValueOf(f).Elem(), func(v reflect.Value) { list = append(list, v) })
	return list
}

// Every field at every depth with another value in it, or with other elements.
func TestP21_3SameFields(t *testing.T) {
	next := stream()
	differ := 0
	for _, f := range append(fonts(next, 25), indexed(25, func(int) api.Font { return garbage(next) })...) {
		for i, v := range listed(&f) {
			for way := range alterations(v) {
				g := deep(f, 0)
				there := listed(&g)[i]
				alterations(there)[way](there)
				agree(t, f, g)
				if told(f, false) != told(g, false) {
					differ++
				}
			}
		}
	}
	if differ < 10000 {
		t.Errorf("%d pairs differ", differ)
	}
}

// Two fields at once with other values: one difference doesn't make good for the other.
func TestP21_3SameTwoFields(t *testing.T) {
	var f api.Font
	fill(reflect.ValueOf(&f).Elem(), func(n int) int { return n / 2 }, 9) // a font with one element in each list
	all := listed(&f)
	for i, v := range all {
		for k := range i {
			ways, others := alterations(v), alterations(all[k])
			if len(ways) == 0 || len(others) == 0 {
				continue
			}
			g := deep(f, 0)
			list := listed(&g)
			ways[0](list[i])
			others[0](list[k])
			if Same(f, g) || Same(g, f) {
				t.Fatalf("values %d and %d: %v, %v", i, k, f, g)
			}
		}
	}
}

// The same, written by hand, so that nothing hangs on how the tests go through a font.
func TestP21_3SameByHand(t *testing.T) {
	for i, change := range []func(f *api.Font){
		func(f *api.Font) { f.Em++ }, func(f *api.Font) { f.Glyphs[7].Adv++ }, func(f *api.Font) { f.Glyphs[0].Kind = 3 }, func(f *api.Font) { f.Glyphs[0].Attach = 1 }, func(f *api.Font) { f.Glyphs[3].Carets[2]++ }, func(f *api.Font) { f.Glyphs = f.Glyphs[:7] }, func(f *api.Font) { f.Glyphs = append(f.Glyphs, api.Info{}) },
		func(f *api.Font) { f.Maps[3].Code++ }, func(f *api.Font) { f.Maps[3].Glyph++ }, func(f *api.Font) { f.Maps = f.Maps[:3] }, func(f *api.Font) { f.Sets[2][1] = 6 }, func(f *api.Font) { f.Sets[1] = []int{0} }, func(f *api.Font) { f.Sets = append(f.Sets, nil) }, func(f *api.Font) { f.Sets[0], f.Sets[1] = f.Sets[1], f.Sets[0] },
		func(f *api.Font) { f.Feats[2].Tag = "!k~1" }, func(f *api.Font) { f.Feats[2].Script = 0 }, func(f *api.Font) { f.Feats[1].Lookups[2] = 10 }, func(f *api.Font) { f.Feats[2].Lookups = []int{0} }, func(f *api.Font) { f.Feats = f.Feats[:2] }, func(f *api.Font) { f.Feats[0], f.Feats[1] = f.Feats[1], f.Feats[0] },
		func(f *api.Font) { f.Lookups[6].Kind = 11 }, func(f *api.Font) { f.Lookups[11].Flags = 2 }, func(f *api.Font) { f.Lookups[2].Set = 0 }, func(f *api.Font) { f.Lookups[0].Subs = f.Lookups[0].Subs[:1] }, func(f *api.Font) { f.Lookups = f.Lookups[:11] },
		func(f *api.Font) { sub(f, 1).Cover[1] = 3 }, func(f *api.Font) { sub(f, 1).To[1][0] = 2 }, func(f *api.Font) { sub(f, 2).To[0] = []int{0} }, func(f *api.Font) { sub(f, 3).Ligs[0][1].Parts[1] = 1 }, func(f *api.Font) { sub(f, 3).Ligs[0][1].Glyph = 7 }, func(f *api.Font) { sub(f, 3).Ligs = sub(f, 3).Ligs[:1] }, func(f *api.Font) { sub(f, 3).Ligs[0] = sub(f, 3).Ligs[0][:1] }, func(f *api.Font) { sub(f, 3).Ligs[0][1].Parts = []int{2} },
		func(f *api.Font) { sub(f, 4).Back[1][0] = 1 }, func(f *api.Font) { sub(f, 4).In[0][1] = 3 }, func(f *api.Font) { sub(f, 4).Ahead[0][0] = 1 }, func(f *api.Font) { sub(f, 4).Nests[2].At = 1 }, func(f *api.Font) { sub(f, 4).Nests[2].Lookup = 1 }, func(f *api.Font) { sub(f, 4).In = sub(f, 4).In[:1] }, func(f *api.Font) { sub(f, 4).Back = nil },
		func(f *api.Font) { sub(f, 6).Values[1].Adv = 1 }, func(f *api.Font) { sub(f, 6).Values[1].DX = 1 }, func(f *api.Font) { sub(f, 6).Values[1].DY = 1 }, func(f *api.Font) { sub(f, 7).Pairs[2].First = 3 }, func(f *api.Font) { sub(f, 7).Pairs[2].Second = 3 }, func(f *api.Font) { sub(f, 7).Pairs[2].A.DY = 3 }, func(f *api.Font) { sub(f, 7).Pairs[2].B.Adv = 3 },
		func(f *api.Font) { sub(f, 8).Curs[3].Glyph = 5 }, func(f *api.Font) { sub(f, 8).Curs[3].HasEntry = true }, func(f *api.Font) { sub(f, 8).Curs[3].HasExit = true }, func(f *api.Font) { sub(f, 8).Curs[0].Entry.Y = 3 }, func(f *api.Font) { sub(f, 8).Curs[0].Exit.X = 1 },
		func(f *api.Font) { sub(f, 9).Marks[0].Glyph = 3 }, func(f *api.Font) { sub(f, 9).Marks[1].Class = 14 }, func(f *api.Font) { sub(f, 9).Marks[1].At.Y = 0 }, func(f *api.Font) { sub(f, 9).Hosts[1].Glyph = 3 }, func(f *api.Font) { sub(f, 9).Hosts[1].Spots[0] = []api.Spot{{}} }, func(f *api.Font) { sub(f, 9).Hosts[0].Spots[0][2].Has = false }, func(f *api.Font) { sub(f, 9).Hosts[0].Spots[0][0].At.X = 0 }, func(f *api.Font) { sub(f, 10).Hosts[0].Spots = sub(f, 10).Hosts[0].Spots[:2] },
	} {
		f, g := full(), deep(full(), 0)
		change(&g)
		if Same(f, g) || Same(g, f) || !Same(f, full()) || !Same(g, g) {
			t.Errorf("change %d: %t, %t", i, Same(f, g), Same(g, f))
		}
	}
}

// emptied returns a copy of f in which lists without elements are nil, or aren't.
func emptied(f api.Font, room int) api.Font {
	f = deep(f, 0)
	for _, v := range listed(&f) {
		if v.Kind() == reflect.Slice && v.Len() == 0 {
			v.Set(reflect.MakeSlice(v.Type(), 0, room))
		}
	}
	return f
}

func TestP21_3NilAndEmpty(t *testing.T) {
	next := stream()
	all := append(fonts(next, 200), indexed(200, func(int) api.Font { return garbage(next) })...)
	for i, f := range append(all, api.Font{}) {
		for _, g := range []api.Font{emptied(f, 0), emptied(f, 3), deep(f, 0), deep(f, 2)} {
			agree(t, f, g)
			agree(t, all[i/2], g)
			if !Same(f, g) || Check(f) != Check(g) || !Same(Clone(g), f) || !Same(g, Clone(f)) {
				t.Fatalf("%v and %v", f, g)
			}
			b, e := Encode(f)
			other, otherError := Encode(g)
			if string(b) != string(other) || e != otherError {
				t.Fatalf("%v is encoded as % X, %d, %v as % X, %d", f, b, e, g, other, otherError)
			}
		}
	}
}

func TestP21_3SamePairs(t *testing.T) {
	next := stream()
	small := indexed(300, func(int) api.Font {
		var f api.Font
		fill(reflect.ValueOf(&f).Elem(), func(n int) int { return next(n) * next(2) * next(2) * next(2) / 2 }, 3)
		return f
	})
	equal := 0
	for i, f := range small {
		for _, g := range small[:i] {
			agree(t, f, g)
			if Same(f, g) {
				equal++
			}
		}
	}
	if equal == 0 {
		t.Error("no two fonts are equal")
	}
}

// A stretch of memory.
type stretch struct{ from, to uintptr }

// memory returns the stretches of memory that the lists and texts within x take, also what lies behind a list.
func memory(x any) []stretch {
	var list []stretch
	parts(reflect.ValueOf(x), func(v reflect.Value) {
		switch v.Kind() {
		case reflect.Slice:
			list = append(list, stretch{v.Pointer(), v.Pointer() + uintptr(v.Cap())*v.Type().Elem().Size()})
		case reflect.String:
			from := uintptr(unsafe.Pointer(unsafe.StringData(v.String())))
			list = append(list, stretch{from, from + uintptr(v.Len())})
		}
	})
	return slices.DeleteFunc(list, func(s stretch) bool { return s.from == 0 })
}

// apart tells whether no two of the stretches, in which there is something, share memory.
func apart(list ...stretch) bool {
	list = slices.DeleteFunc(list, func(s stretch) bool { return s.from == s.to })
	slices.SortFunc(list, func(a, b stretch) int { return cmp.Compare(a.from, b.from) })
	for i := range list {
		if i > 0 && list[i].from < list[i-1].to {
			return false
		}
	}
	return true
}

// fresh checks that the result shares no memory with the arguments, and no two lists of it with each other. Not even a list without room may begin within an argument.
func fresh(t *testing.T, result any, arguments ...any) {
	t.Helper()
	of := memory(result)
	if !apart(slices.Clone(of)...) {
		t.Fatalf("lists of %v share memory", result)
	}
	for i := range of {
		of[i].to = max(of[i].to, of[i].from+1)
	}
	slices.SortFunc(of, func(a, b stretch) int { return cmp.Compare(a.from, b.from) })
	for _, argument := range arguments {
		for _, s := range memory(argument) {
			if s.from == s.to {
				continue
			}
			i, _ := slices.BinarySearchFunc(of, s.to, func(a stretch, at uintptr) int { return cmp.Compare(a.from, at) })
			if i > 0 && of[i-1].to > s.from {
				t.Fatalf("%v shares memory with %v", result, argument)
			}
		}
	}
}

func TestP21_3Clone(t *testing.T) {
	next := stream()
	all := slices.Concat(fonts(next, 300), indexed(300, func(int) api.Font { return garbage(next) }), limits(), []api.Font{{}, emptied(full(), 0)})
	for _, given := range all {
		for room := range 2 {
			f := deep(given, 2*room)
			before, beside := told(f, true), told(f, false)
			c := Clone(f)
			if told(c, false) != beside || told(f, true) != before || !Same(c, f) || !Same(f, c) {
				t.Fatalf("Clone(%v) = %v", f, c)
			}
			fresh(t, c, f)
			if c := Clone(emptied(f, 3)); told(c, false) != beside {
				t.Fatalf("Clone of empty lists: %v", c)
			}
			spoil(c)
			if told(f, true) != before {
				t.Fatal("writing to a clone changes the font")
			}
			c = Clone(f)
			spoil(f)
			if told(c, false) != beside {
				t.Fatal("writing to the font changes its clone")
			}
		}
	}
	// Lists of the font that share memory with one another.
	one := []int{1, 2, 3, 4}
	f := full()
	f.Sets = [][]int{one, one[:2], one[1:], one[:0], one}
	f.Glyphs[3].Carets, f.Feats[1].Lookups, f.Feats[2].Tag = one, one[:1], f.Feats[0].Tag
	f.Lookups = append(f.Lookups, f.Lookups...)
	c := Clone(f)
	if !Same(f, c) {
		t.Errorf("Clone(%v) = %v", f, c)
	}
	fresh(t, c, f)
}

// Each list of a clone, written to by itself.
func TestP21_3CloneLists(t *testing.T) {
	f := full()
	want := told(f, true)
	c := Clone(f)
	for i, v := range listed(&c) {
		if v.Kind() != reflect.Slice || v.Len() == 0 {
			continue
		}
		v.Index(0).SetZero()
		if told(f, true) != want {
			t.Fatalf("writing to value %d of a clone changes the font", i)
		}
	}
}

// plain is what Plain is asked for.
func plain(codes []rune, adv int) api.Font {
	adv = int(math.Max(-1048576, math.Min(float64(adv), 1048576)))
	asked := make([]bool, 0x110000)
	for _, code := range codes {
		if code >= 0 && code <= 0xD7FF || code >= 0xE000 && code <= 0x10FFFF {
			asked[code] = true
		}
	}
	f := api.Font{Em: 1000, Glyphs: []api.Info{{Adv: adv}}}
	for code, is := range asked {
		if is && len(f.Glyphs) <= 4095 {
			f.Maps = append(f.Maps, api.Map{Code: rune(code), Glyph: len(f.Glyphs)})
			f.Glyphs = append(f.Glyphs, api.Info{Adv: adv, Kind: api.GkBase})
		}
	}
	return f
}

// checkPlain checks the font of the codes, and that it is valid: P21.6, too.
func checkPlain(t *testing.T, codes []rune, adv int) api.Font {
	t.Helper()
	given := slices.Clone(codes)
	got, want := Plain(codes, adv), plain(codes, adv)
	if told(got, false) != told(want, false) {
		t.Fatalf("Plain(%X, %d) = %v, not %v", codes, adv, got, want)
	}
	if Check(got) != api.OK || faults(got) != "" || !slices.Equal(codes, given) {
		t.Fatalf("Plain(%X, %d): %d, broken: %s", given, adv, Check(got), faults(got))
	}
	fresh(t, got, codes)
	return got
}

func TestP21_4ByHand(t *testing.T) {
	base := func(adv int) api.Info { return api.Info{Adv: adv, Kind: api.GkBase} }
	for _, c := range []struct {
		codes []rune
		adv   int
		want  api.Font
	}{
		{nil, 7, api.Font{Em: 1000, Glyphs: []api.Info{{Adv: 7}}}},
		{[]rune{}, 0, api.Font{Em: 1000, Glyphs: []api.Info{{}}}},
		{[]rune("a"), 5, api.Font{Em: 1000, Glyphs: []api.Info{{Adv: 5}, base(5)}, Maps: []api.Map{{Code: 'a', Glyph: 1}}}},
		{[]rune("cabbage"), -1, api.Font{Em: 1000, Glyphs: []api.Info{{Adv: -1}, base(-1), base(-1), base(-1), base(-1), base(-1)}, Maps: []api.Map{{Code: 'a', Glyph: 1}, {Code: 'b', Glyph: 2}, {Code: 'c', Glyph: 3}, {Code: 'e', Glyph: 4}, {Code: 'g', Glyph: 5}}}},
		{[]rune{0x10FFFF, 0x110000, 0xD800, 0xDFFF, -1, 0, 0xD7FF, 0xE000, 0, math.MinInt32, math.MaxInt32}, 1048577, api.Font{Em: 1000, Glyphs: []api.Info{{Adv: 1048576}, base(1048576), base(1048576), base(1048576), base(1048576)}, Maps: []api.Map{{Code: 0, Glyph: 1}, {Code: 0xD7FF, Glyph: 2}, {Code: 0xE000, Glyph: 3}, {Code: 0x10FFFF, Glyph: 4}}}},
		{[]rune{-1, 0xDABC, 0x110000}, math.MinInt, api.Font{Em: 1000, Glyphs: []api.Info{{Adv: -1048576}}}},
	} {
		if got := checkPlain(t, c.codes, c.adv); !Same(got, c.want) {
			t.Errorf("Plain(%X, %d) = %v", c.codes, c.adv, got)
		}
	}
}

func TestP21_4Advances(t *testing.T) {
	for _, adv := range []int{math.MinInt, math.MinInt + 1, -1 << 32, math.MinInt32, -1048578, -1048577, -1048576, -1048575, -1, 0, 1, 500, 1048575, 1048576, 1048577, 1048578, math.MaxInt32, 1 << 32, 1<<32 + 5, math.MaxInt - 1, math.MaxInt} {
		for _, codes := range [][]rune{nil, {'a'}, {'b', 'a'}} {
			for _, glyph := range checkPlain(t, codes, adv).Glyphs {
				if glyph.Adv != min(max(adv, -1<<20), 1<<20) {
					t.Errorf("%d: %v", adv, glyph)
				}
			}
		}
	}
}

func TestP21_4Short(t *testing.T) {
	lists(4, []rune{'a', 'b', 0x10FFFF, -1, 0xD800}, func(codes []rune) { checkPlain(t, codes, len(codes)) })
	for _, code := range []rune{math.MinInt32, -1, 0, 1, 0xD7FE, 0xD7FF, 0xD800, 0xDBFF, 0xDC00, 0xDFFF, 0xE000, 0xFFFD, 0xFFFF, 0x10000, 0x10FFFE, 0x10FFFF, 0x110000, math.MaxInt32} {
		checkPlain(t, []rune{code}, 3)
		checkPlain(t, []rune{code, 'a', code, 0x20AC, code}, 3)
	}
}

func TestP21_4Many(t *testing.T) {
	next := stream()
	for _, n := range []int{4093, 4094, 4095, 4096, 4097, 8191, 65536} {
		for _, step := range []rune{1, 16} {
			codes := make([]rune, n)
			for i := range codes {
				codes[i] = rune(i)*step + 'a'
			}
			f := checkPlain(t, codes, 9)
			if want := min(n, 4095) + 1; step*rune(n) < 0xD000 && len(f.Glyphs) != want {
				t.Errorf("%d codes: %d glyphs", n, len(f.Glyphs))
			}
			slices.Reverse(codes)
			if !Same(checkPlain(t, codes, 9), f) {
				t.Errorf("%d codes, reversed", n)
			}
			for i := range codes {
				at := next(i + 1)
				codes[i], codes[at] = codes[at], codes[i]
			}
			if !Same(checkPlain(t, codes, 9), f) {
				t.Errorf("%d codes, mixed", n)
			}
		}
	}
	// Many codes, but few different ones; and many that aren't valid.
	few := indexed(65536, func(i int) rune { return rune('a' + next(4094)) })
	checkPlain(t, few, 1)
	checkPlain(t, append(few[:65530], -1, 'A', 0xD800, 0x110000), 1)
	checkPlain(t, times(65536, 'x'), 1)
	checkPlain(t, indexed(65536, func(i int) rune { return rune(0xD800 + i%2048) }), 1)
	checkPlain(t, indexed(65536, func(i int) rune { return rune(-1 - i) }), 1)
	checkPlain(t, indexed(65536, func(i int) rune { return rune(0x10FFFF - i*4%8192 + 4096) }), 1)
	checkPlain(t, indexed(65536, func(i int) rune { return rune(next(0x120000) - 0x8000) }), 1)
}

// P21.6: a clone equals its original, and writing to one does not change the other; of the fonts that Plain returns, too.
func TestP21_6PlainCloned(t *testing.T) {
	for _, codes := range [][]rune{nil, []rune("abc"), []rune("typecase")} {
		f := Plain(codes, 500)
		if judge(t, f) != "" {
			t.Errorf("Plain(%q) is not valid", codes)
		}
		c := Clone(f)
		c.Glyphs[0].Adv++
		if Same(c, f) || f.Glyphs[0].Adv != 500 || !Same(f, Plain(codes, 500)) {
			t.Errorf("Plain(%q): %v, %v", codes, f, c)
		}
	}
}
