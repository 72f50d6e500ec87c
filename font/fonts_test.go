package font

import (
	"slices"
	"testing"

	"typecase/api"
)

// full returns a valid font in which each field occurs. Its lookup i is of the kind i + 1.
func full() api.Font {
	marks := []api.MarkAt{{Glyph: 4, Class: 0, At: api.Anchor{X: 1, Y: -2}}, {Glyph: 5, Class: 15, At: api.Anchor{X: -1048576, Y: 1048576}}}
	spots := []api.Spot{{Has: true, At: api.Anchor{X: 300, Y: 700}}, {}, {Has: true}}
	return api.Font{
		Em: 1000,
		Glyphs: []api.Info{
			{Adv: 500}, {Adv: 520, Kind: api.GkBase}, {Adv: -3, Kind: api.GkBase, Attach: 255}, {Adv: 900, Kind: api.GkLig, Carets: []int{-5, 300, 600}},
			{Kind: api.GkMark, Attach: 1}, {Kind: api.GkMark, Attach: 7}, {Adv: 1048576, Kind: api.GkLig}, {Adv: -1048576},
		},
		Maps: []api.Map{{Code: 'a', Glyph: 1}, {Code: 'b', Glyph: 2}, {Code: 0x301, Glyph: 4}, {Code: 0x1F600, Glyph: 0}},
		Lookups: []api.Lookup{
			{Kind: api.LkSingle, Subs: []api.Sub{{Cover: []int{1, 2}, To: [][]int{{2}, {1}}}, {}}},
			{Kind: api.LkMultiple, Flags: api.NoMarks, Subs: []api.Sub{{Cover: []int{1, 2, 3}, To: [][]int{{}, {2, 1}, {3}}}}},
			{Kind: api.LkLigature, Flags: api.OneSet, Set: 2, Subs: []api.Sub{{Cover: []int{1, 2}, Ligs: [][]api.Lig{{{Parts: []int{2}, Glyph: 3}, {Parts: []int{2, 2}, Glyph: 6}}, {}}}}},
			{Kind: api.LkContext, Flags: 0xFF00, Subs: []api.Sub{{Back: [][]int{{1}, {2}}, In: [][]int{{1, 2}, {}}, Ahead: [][]int{{3}}, Nests: []api.Nest{{At: 0, Lookup: 0}, {At: 1, Lookup: 4}, {At: 0, Lookup: 3}}}}},
			{Kind: api.LkReverse, Subs: []api.Sub{{Cover: []int{1, 3}, To: [][]int{{2}, {0}}, Back: [][]int{{1}}, Ahead: [][]int{{2, 3}, {}}}}},
			{Kind: api.LkAdjust, Subs: []api.Sub{{Cover: []int{1, 2}, Values: []api.Value{{Adv: 1, DX: -2, DY: 3}, {}}}}},
			{Kind: api.LkPair, Flags: api.NoBases | api.NoLigs, Subs: []api.Sub{{Pairs: []api.Pair{{First: 1, Second: 1, A: api.Value{Adv: -40}, B: api.Value{DX: 4, DY: 5}}, {First: 1, Second: 2}, {First: 2, Second: 1}}}}},
			{Kind: api.LkCursive, Subs: []api.Sub{{Curs: []api.Curs{{Glyph: 1, HasEntry: true, HasExit: true, Entry: api.Anchor{X: 1, Y: 2}, Exit: api.Anchor{X: 3, Y: -4}}, {Glyph: 2, HasExit: true, Exit: api.Anchor{X: 5}}, {Glyph: 3, HasEntry: true}, {Glyph: 4}}}}},
			{Kind: api.LkMarkBase, Subs: []api.Sub{{Marks: marks, Hosts: []api.Host{{Glyph: 1, Spots: [][]api.Spot{spots}}, {Glyph: 2, Spots: [][]api.Spot{{}}}}}}},
			{Kind: api.LkMarkLig, Subs: []api.Sub{{Marks: marks[:1], Hosts: []api.Host{{Glyph: 3, Spots: [][]api.Spot{spots, {}, spots[:2]}}, {Glyph: 6, Spots: [][]api.Spot{{}}}}}}},
			{Kind: api.LkMarkMark, Flags: 0x0100, Subs: []api.Sub{{Marks: marks[1:], Hosts: []api.Host{{Glyph: 4, Spots: [][]api.Spot{spots[:1]}}}}}},
			{Kind: api.LkPosContext, Subs: []api.Sub{{In: [][]int{{4, 5}}, Nests: []api.Nest{{At: 0, Lookup: 5}, {At: 0, Lookup: 11}}}}},
		},
		Feats: []api.Feat{{Tag: "liga", Script: api.None, Lookups: []int{2}}, {Tag: "liga", Script: api.ScArabic, Lookups: []int{0, 2, 11}}, {Tag: "!k~0", Script: api.ScArabic}},
		Sets:  [][]int{{4, 5}, {}, {0, 7}},
	}
}

// up returns the n numbers from first on.
func up(first, n int) []int {
	list := make([]int, n)
	for i := range list {
		list[i] = first + i
	}
	return list
}

// times returns a list of n times x.
func times[T any](n int, x T) []T { return slices.Repeat([]T{x}, n) }

// indexed returns the list of what made returns for the numbers from 0 up to n.
func indexed[T any](n int, made func(i int) T) []T {
	list := make([]T, n)
	for i := range list {
		list[i] = made(i)
	}
	return list
}

// wide returns a valid font of 4096 glyphs, with one lookup for each kind, like full. Subtables are left to those who ask.
func wide() api.Font {
	f := api.Font{Em: 16384, Glyphs: make([]api.Info, 4096)}
	for kind := api.LkSingle; kind <= api.LkPosContext; kind++ {
		f.Lookups = append(f.Lookups, api.Lookup{Kind: kind})
	}
	return f
}

// limits returns valid fonts that are together at all of their limits, each of them at as many as R8 leaves room for.
func limits() []api.Font {
	f, g := wide(), wide()
	for i := range f.Glyphs {
		f.Glyphs[i] = api.Info{Adv: 1048576, Kind: api.GkLig, Attach: 255, Carets: up(1048576-14, 15)}
	}
	f.Maps = indexed(4096, func(i int) api.Map { return api.Map{Code: rune(0x10FFFF - 4095 + i), Glyph: 4095 - i} })
	all := up(0, 4096)
	f.Sets = times(16, all)
	f.Feats = indexed(64, func(i int) api.Feat {
		return api.Feat{Tag: []string{"!!!!", "~~~~", "!!!~", "~!!!", "a!!!", "A~~~"}[i%6], Script: i / 6, Lookups: up(0, 64)}
	})
	spots := times(16, api.Spot{Has: true, At: api.Anchor{X: -1048576, Y: 1048576}})
	f.Lookups[0].Subs = []api.Sub{{Cover: all, To: indexed(4096, func(i int) []int { return []int{4095 - i} })}}
	f.Lookups[1].Subs = []api.Sub{{Cover: all, To: times(4096, up(4080, 16))}}
	f.Lookups[2].Subs = []api.Sub{{Cover: all, Ligs: indexed(4096, func(i int) []api.Lig { return []api.Lig{{Parts: times(15, i), Glyph: i}} })}}
	f.Lookups[3].Subs = []api.Sub{{In: times(16, all[:16]), Back: times(16, all[4080:]), Ahead: times(16, []int(nil)), Nests: times(16, api.Nest{At: 15, Lookup: 4})}}
	f.Lookups[4].Subs = []api.Sub{{Back: times(16, all[:1]), Ahead: times(16, all[4095:])}}
	f.Lookups[5].Subs = []api.Sub{{Cover: all, Values: times(4096, api.Value{Adv: 1048576, DX: -1048576, DY: 1})}}
	f.Lookups[6].Subs = []api.Sub{{Pairs: indexed(4096, func(i int) api.Pair { return api.Pair{First: i / 64, Second: i % 64, A: api.Value{DY: 1048576}} })}}
	f.Lookups[7].Subs = []api.Sub{{Curs: indexed(4096, func(i int) api.Curs { return api.Curs{Glyph: i, HasExit: true, Exit: api.Anchor{X: i, Y: -i}} })}}
	marks := indexed(4096, func(i int) api.MarkAt { return api.MarkAt{Glyph: i, Class: i % 16, At: api.Anchor{Y: i}} })
	f.Lookups[8].Subs = []api.Sub{{Marks: marks, Hosts: indexed(4096, func(i int) api.Host { return api.Host{Glyph: i, Spots: [][]api.Spot{nil}} })}}
	f.Lookups[9].Subs = []api.Sub{{Hosts: indexed(16, func(i int) api.Host { return api.Host{Glyph: i, Spots: times(16, spots)} })}}
	for len(f.Lookups) < 64 {
		f.Lookups = append(f.Lookups, api.Lookup{Kind: 1 + len(f.Lookups)%12, Flags: 0xFF1E, Set: 15})
	}
	f.Lookups[60].Subs = make([]api.Sub, 64)
	g.Lookups[10].Subs = []api.Sub{{Marks: marks, Hosts: indexed(4096, func(i int) api.Host { return api.Host{Glyph: i, Spots: [][]api.Spot{spots[:8]}} })}}
	g.Lookups[11].Subs = []api.Sub{{In: times(16, all), Back: times(16, all), Ahead: times(16, all)}}
	return []api.Font{f, g}
}

// maker makes fonts of what next returns.
type maker struct {
	next           func(n int) int
	glyphs, most   int // how many glyphs the font has, and how many elements a list at most
	lookups, feats int
}

func (m *maker) one(among ...int) int { return among[m.next(len(among))] }

func (m *maker) measure() int {
	return m.one(-1048576, -8192, -65, -64, -1, 0, 0, 1, 63, 64, 500, 8191, 8192, 1048576, m.next(2097153)-1048576)
}

func (m *maker) anchor() api.Anchor { return api.Anchor{X: m.measure(), Y: m.measure()} }

func (m *maker) value() api.Value {
	return api.Value{Adv: m.measure(), DX: m.measure(), DY: m.measure()}
}

func (m *maker) place() api.Spot {
	if m.next(3) == 0 {
		return api.Spot{}
	}
	return api.Spot{Has: true, At: m.anchor()}
}

// rising returns at most so many numbers from 0 up to n, in increasing order.
func (m *maker) rising(n, most int) []int {
	list := m.glyphList(m.next(most+1), n)
	slices.Sort(list)
	return slices.Compact(list)
}

func (m *maker) glyphList(count, n int) []int {
	if n == 0 {
		return nil
	}
	return indexed(count, func(int) int { return m.next(n) })
}

func (m *maker) cover() []int { return m.rising(m.glyphs, m.most) }

func (m *maker) covers(least int) [][]int {
	return indexed(least+m.next(4), func(int) []int { return m.cover() })
}

func (m *maker) font() api.Font {
	m.glyphs, m.lookups, m.feats = 1+m.next(12), m.next(8), m.next(5)
	f := api.Font{Em: m.one(1, 1000, 2048, 16384, 1+m.next(16384))}
	f.Glyphs = indexed(m.glyphs, func(int) api.Info {
		g := api.Info{Adv: m.measure(), Kind: m.next(4), Attach: m.one(0, 1, 255, m.next(256))}
		if g.Kind == api.GkLig {
			g.Carets = indexed(m.next(4), func(int) int { return m.measure() })
			slices.Sort(g.Carets)
			g.Carets = slices.Compact(g.Carets)
		}
		return g
	})
	for _, code := range m.rising(0x110000, m.most) {
		if code < 0xD800 || code > 0xDFFF {
			f.Maps = append(f.Maps, api.Map{Code: rune(code), Glyph: m.next(m.glyphs)})
		}
	}
	f.Sets = m.covers(0)
	f.Lookups = indexed(m.lookups, func(int) api.Lookup { return api.Lookup{Kind: 1 + m.next(12)} })
	for i := range f.Lookups {
		m.lookup(f, &f.Lookups[i])
	}
	f.Feats = indexed(m.feats, func(i int) api.Feat {
		return api.Feat{Tag: []string{"liga", "kern", "!~!~"}[i%3], Script: i/3 + m.one(-1, 3, 6, 9), Lookups: m.rising(m.lookups, 5)}
	})
	return f
}

func (m *maker) lookup(f api.Font, l *api.Lookup) {
	l.Flags = 256*m.one(0, 1, 255, m.next(256)) + 2*m.next(8)
	if len(f.Sets) > 0 && m.next(3) == 0 {
		l.Flags, l.Set = l.Flags+16, m.next(len(f.Sets))
	}
	l.Subs = indexed(m.next(3), func(int) api.Sub { return m.sub(f, l.Kind) })
}

func (m *maker) sub(f api.Font, kind int) api.Sub {
	s := api.Sub{}
	switch kind {
	case api.LkSingle, api.LkMultiple, api.LkReverse:
		s.Cover = m.cover()
		s.To = indexed(len(s.Cover), func(int) []int {
			if kind == api.LkMultiple {
				return m.glyphList(m.next(4), m.glyphs)
			}
			return []int{m.next(m.glyphs)}
		})
		if kind == api.LkReverse {
			s.Back, s.Ahead = m.covers(0), m.covers(0)
		}
	case api.LkLigature:
		s.Cover = m.cover()
		s.Ligs = indexed(len(s.Cover), func(int) []api.Lig {
			return indexed(m.next(3), func(int) api.Lig {
				return api.Lig{Parts: m.glyphList(1+m.next(3), m.glyphs), Glyph: m.next(m.glyphs)}
			})
		})
	case api.LkContext, api.LkPosContext:
		s.Back, s.In, s.Ahead = m.covers(0), m.covers(1), m.covers(0)
		for i, l := range f.Lookups {
			if (l.Kind < 6) == (kind < 6) && m.next(2) == 0 {
				s.Nests = append(s.Nests, api.Nest{At: m.next(len(s.In)), Lookup: i})
			}
		}
	case api.LkAdjust:
		s.Cover = m.cover()
		s.Values = indexed(len(s.Cover), func(int) api.Value { return m.value() })
	default:
		m.attach(kind, &s)
	}
	return s
}

// attach makes the subtables that have neither a cover nor covers.
func (m *maker) attach(kind int, s *api.Sub) {
	switch kind {
	case api.LkPair:
		for _, pair := range m.rising(m.glyphs*m.glyphs, m.most) {
			s.Pairs = append(s.Pairs, api.Pair{First: pair / m.glyphs, Second: pair % m.glyphs, A: m.value(), B: m.value()})
		}
	case api.LkCursive:
		for _, glyph := range m.cover() {
			in, out := m.place(), m.place()
			s.Curs = append(s.Curs, api.Curs{Glyph: glyph, HasEntry: in.Has, HasExit: out.Has, Entry: in.At, Exit: out.At})
		}
	default:
		for _, glyph := range m.cover() {
			s.Marks = append(s.Marks, api.MarkAt{Glyph: glyph, Class: m.next(16), At: m.anchor()})
		}
		for _, glyph := range m.cover() {
			count := 1
			if kind == api.LkMarkLig {
				count += m.next(3)
			}
			s.Hosts = append(s.Hosts, api.Host{Glyph: glyph, Spots: indexed(count, func(int) []api.Spot {
				return indexed(m.next(4), func(int) api.Spot { return m.place() })
			})})
		}
	}
}

// someFonts returns n valid fonts.
func someFonts(next func(int) int, n int) []api.Font {
	return indexed(n, func(int) api.Font {
		m := &maker{next: next, most: 1 + next(8)}
		return m.font()
	})
}

// fonts returns the valid fonts that many tests go through: some written by hand, and n others.
func fonts(next func(int) int, n int) []api.Font {
	return append([]api.Font{full(), {Em: 1, Glyphs: []api.Info{{}}}, Plain([]rune("ab"), 500), Plain(nil, -7)}, someFonts(next, n)...)
}

// The fonts that are called valid are so.
func TestFonts(t *testing.T) {
	for i, f := range slices.Concat(fonts(stream(), 3000), limits(), []api.Font{wide()}) {
		if got := faults(f); got != "" || Check(f) != api.OK {
			t.Errorf("font %d: %d, broken: %s", i, Check(f), got)
		}
	}
	for i, f := range limits() {
		if n := len(encoding(f)); n > 1<<20 {
			t.Errorf("font %d of those at the limits has %d bytes", i, n)
		}
	}
}
